/-
  spec.HideNames and impl.HideNames.
-/
import Derived.Test.YtlkhfgfficehcaaStpS
import Derived.Test.YtlkhfgfficehcaaCopI
import Derived.Test.YtlkhfgfficehcaaObI
import Derived.Test.YtlkhfgfficehcaaShelf
import Derived.BigQuiet
import Derived.Deep.QuietTactic
namespace Go.Proofs.Ytlkhfgfficehcaa
open Go.RowKit

/-- A symbol's binding is changed in place. -/
theorem CpS.setBind {w W : World} {va vb vs vm : Value} {q : Nat} {L : List Sp} {ms : List Sm} (h : CpS w W va vb q vs vm L ms) {k : Nat} {m : Sm} (hk : ms[k]? = some m) :
    ∃ g c, vm = .slice (some ⟨g, 0, none⟩) ms.length c ∧ W.cell? ⟨g, k * 4, none⟩ = some (.string m.name) ∧ W.cell? ⟨g, k * 4 + 1, none⟩ = some (.int .i64 m.bind) ∧ W.cell? ⟨g, k * 4 + 2, none⟩ = some (.int .i64 m.loc) ∧ W.frozen? ⟨g, k * 4 + 1, none⟩ = false ∧
      ∀ z, CpS w (W.setCell ⟨g, k * 4 + 1, none⟩ (.int .i64 z)) va vb q vs vm L (ms.set k { m with bind := z }) := by
  obtain ⟨g, c, h1, h2, h3, h4, h5, h6⟩ := h.ob.setBind hk
  have hkl : k < ms.length := (List.getElem?_eq_some_iff.1 hk).1
  have hrow := h.ob.syms
  rw [h1] at hrow
  obtain ⟨t0, t1, t2, t3⟩ := flatM_at _ _ _ hk
  refine ⟨g, c, h1, ?_, h5, ?_, h4 _, fun z => ?_⟩
  · rw [hrow.cellAt (k * 4) (by omega)]; exact t0
  · rw [hrow.cellAt (k * 4 + 2) (by omega)]; exact t2
  obtain ⟨h8, h9⟩ := h6 z
  rcases hrow.2 with ⟨e, _⟩ | ⟨g', cap, cur, e, _, hh, _⟩
  · cases e
  injection e with e
  injection e with e
  injection e with e
  subst e
  have hh' : Has W g 54 cur := hh
  exact ⟨h.below.grown h9 h.below.size (by intro b hb; injection hb with hb; omega), h.arg.away (h.arg.differ hh' (by decide)) _, h.res.away (h.res.differ hh' (by decide)) _, h8, h.far⟩
set_option maxRecDepth 100000 in
set_option maxHeartbeats 4000000 in
theorem hideNames'_any (w : World) (B : Nat) (a1 a2 : Option Addr) (c1 c2 n m : Nat) (l : List Sp) (ms : List Sm) (hn : n = l.length) (hm : m = ms.length) (h1 : Sects w B a1 l) (h2 : Syms w B a2 ms) (hB : B ≤ w.heap.size) (hlen : n ≤ 9223372036854775807) (hlem : m ≤ 9223372036854775807) (hl : ∀ y ∈ l, y.s.lens) (hs : ∀ x ∈ ms, x.name.size ≤ maxLen) (hnm : ∀ y ∈ l, y.s.name.size ≤ 1048576)
    (K : List ByteArray) (ka : Option Addr) (nk kc : Nat) (hkv : Vals w B ka (K.map Value.string)) (hkn : K.length = nk) (hkm : nk ≤ 1048576) :
    Calls Try.prog 10 #[.agg #[.slice a1 n c1, .slice a2 m c2], .slice ka nk kc] w (AnsO w (hideA K (l.map Sp.s) ms)) := by
  have hA : Has ((w.alloc (.cells #[.slice a1 n c1, .slice a2 m c2] 26)).alloc (.cells #[.slice none 0 0, .slice none 0 0] 26)) w.heap.size 26 #[.slice a1 n c1, .slice a2 m c2] := (Has.new _ _ _).alloc _
  have hBa : Below w.heap.size w ((w.alloc (.cells #[.slice a1 n c1, .slice a2 m c2] 26)).alloc (.cells #[.slice none 0 0, .slice none 0 0] 26)) := ((Below.refl _ _).alloc (Nat.le_refl _) _).alloc (by simp) _
  have hR : Has ((w.alloc (.cells #[.slice a1 n c1, .slice a2 m c2] 26)).alloc (.cells #[.slice none 0 0, .slice none 0 0] 26)) (w.heap.size + 1) 26 #[.slice none 0 0, .slice none 0 0] := by
    have := Has.new (w.alloc (.cells #[.slice a1 n c1, .slice a2 m c2] 26)) 26 #[.slice none 0 0, .slice none 0 0]
    simpa using this
  obtain ⟨W2, hW2⟩ : ∃ q, ((w.alloc (.cells #[.slice a1 n c1, .slice a2 m c2] 26)).alloc (.cells #[.slice none 0 0, .slice none 0 0] 26)) = q := ⟨_, rfl⟩
  rw [hW2] at hA hBa hR
  have HW2 := hidden hW2
  have x0 : W2.cell? ⟨w.heap.size, 0, none⟩ = some (.slice a1 n c1) := hA.cell 0
  have x1 : W2.cell? ⟨w.heap.size, 1, none⟩ = some (.slice a2 m c2) := hA.cell 1
  have HN := hidden hn
  have HM := hidden hm
  have HKV := hidden (hkv.more hB)
  have HKN := hidden hkn
  have H1 := hidden (h1.more hB)
  have H2 := hidden (h2.more hB)
  have HOV := hidden (objectValid'_any W2 w.heap.size a1 a2 c1 c2 n m l ms hn hm ((h1.more hB).below hBa) ((h2.more hB).below hBa) hBa.size hlen hlem hl hs)
  obtain ⟨ok, hok⟩ : ∃ q, objOk (l.map Sp.s) ms = q := ⟨_, rfl⟩
  rw [hok] at HOV
  have HOK := hidden hok
  have HA2 := hidden hA
  have HR2 := hidden hR
  have HBA := hidden hBa
  have HNM := hidden hnm
  clear h1 h2 hl hs hB hW2 hn hm hA hR hBa hok hkv hkn hnm
  go_enter Try.func10, Try.ntmps10
  go_upto_region 1 with fail
  rw [HW2.out]
  clear HW2
  go_wp2_with fail
  refine HOV.out.mono ?_
  clear HOV x0 x1
  rintro e wc ⟨rfl, hb3⟩
  have hA := HA2.out.below hb3 HA2.out.lt
  have hR := HR2.out.below hb3 HR2.out.lt
  have HBC := hidden (HBA.out.trans (hb3.mono HBA.out.size))
  have HA := hidden hA
  have HR := hidden hR
  clear HA2 HR2 HBA hb3
  cases ok with
  | false =>
    have r0 : wc.cell? ⟨w.heap.size + 1, 0, none⟩ = some (.slice none 0 0) := hR.cell 0
    have r1 : wc.cell? ⟨w.heap.size + 1, 1, none⟩ = some (.slice none 0 0) := hR.cell 1
    have u0 : wc.frozen? ⟨w.heap.size + 1, 0, none⟩ = false := hR.free 0
    have u1 : wc.frozen? ⟨w.heap.size + 1, 1, none⟩ = false := hR.free 1
    have HAN : Hid (hideA K (l.map Sp.s) ms = ([], [])) := by
      show _ = _
      unfold hideA
      rw [HOK.out]; rfl
    clear hA hR
    go_wp2_with fail
    have p1 := (HR.out.put 0 (.slice none 0 0)).put 1 (.slice none 0 0)
    have hb7 : Below w.heap.size w ((wc.setCell ⟨w.heap.size + 1, 0, none⟩ (.slice none 0 0)).setCell ⟨w.heap.size + 1, 1, none⟩ (.slice none 0 0)) := HBC.out.grown (only_trans (only_put' 0 _) (only_put' 1 _)) HBC.out.size (by intro q hq; injection hq with hq; omega)
    refine bodyPost_ret (results_cell_row rfl _ _ (w.heap.size + 1) 26 #[.slice none 0 0, .slice none 0 0] (0, 0) _ rfl p1 Try.underlying26 rfl (by kernel_rfl)) rfl ?_
    rw [HAN.out]
    exact ansO_none _ _ hb7
  | true =>
    have hpa := objOk_parts HOK.out
    have hm12 : m ≤ 12 := by rw [HM.out]; exact hpa.2.1
    have hn8 : n ≤ 8 := by rw [HN.out]; have := hpa.1; rwa [List.length_map] at this
    have hsh : ∀ y ∈ l, y.s.short := fun y hy => by
      obtain ⟨g1, g2, _⟩ := hpa.2.2 y.s (List.mem_map_of_mem hy)
      exact ⟨HNM.out y hy, by omega, by omega⟩
    have HCP := hidden (l4Copy_any wc w.heap.size a1 a2 c1 c2 n m l ms HN.out HM.out (H1.out.below HBC.out) (H2.out.below HBC.out) HBC.out.size (by omega) (by omega) hsh)
    have HAN : Hid (hideA K (l.map Sp.s) ms = (l.map Sp.s, ms.map (hideM K))) := by
      show _ = _
      unfold hideA
      rw [if_pos HOK.out]
    have x0 : wc.cell? ⟨w.heap.size, 0, none⟩ = some (.slice a1 n c1) := hA.cell 0
    have x1 : wc.cell? ⟨w.heap.size, 1, none⟩ = some (.slice a2 m c2) := hA.cell 1
    clear hpa hn8 hsh hA hR HNM
    go_wp2_with fail
    refine HCP.out.mono ?_
    clear HCP x0 x1
    rintro e w3 ⟨L, b1, b2, d1, d2, rfl, hLs, hown, hb3⟩
    dsimp only at hLs hown
    have hLn : L.length = n := by have := congrArg List.length hLs; rw [List.length_map, List.length_map] at this; rw [this]; exact HN.out.symm
    have hMm : ms.length = m := HM.out.symm
    rw [hLn, hMm] at hown
    dsimp only
    rw [hLn, hMm]
    have hC4 : CpS w (w3.alloc (.cells #[.slice b1 n d1, .slice b2 m d2] 26)) (.slice a1 n c1) (.slice a2 m c2) w3.heap.size (.slice b1 n d1) (.slice b2 m d2) L (hidN K 0 ms) := by
      refine ⟨(HBC.out.trans (hb3.mono HBC.out.size)).alloc (Nat.le_trans HBC.out.size hb3.size) _, (HA.out.below hb3 HA.out.lt).alloc _, (HR.out.below hb3 HR.out.lt).alloc _, ⟨Has.new _ _ _, (hown.secs.lower HBC.out.size).alloc _, ?_⟩, Nat.lt_of_lt_of_le HR.out.lt hb3.size⟩
      rw [hidN_start, hMm]; exact (row_lower hown.syms HBC.out.size).alloc _
    obtain ⟨Q, hQ⟩ : ∃ q, w3.heap.size = q := ⟨_, rfl⟩
    obtain ⟨W4, hW4⟩ : ∃ q, w3.alloc (.cells #[.slice b1 n d1, .slice b2 m d2] 26) = q := ⟨_, rfl⟩
    rw [hW4, hQ] at hC4
    have HW4 := hidden hW4
    have HQ := hidden hQ
    have HC4 := hidden hC4
    have HLS := hidden hLs
    have HLN := hidden hLn
    clear hown hb3 hMm hC4 hW4 hQ hLs hLn HA HR HBC
    go_upto_region 4 with fail
    rw [HW4.out, HQ.out]
    clear HW4 HQ
    go_wp2_with fail
    go_loopw [6] (fun i wr => ∃ k : Nat, i = .int .i64 k ∧ k ≤ m ∧ Hid (CpS w wr (.slice a1 n c1) (.slice a2 m c2) Q (.slice b1 n d1) (.slice b2 m d2) L (hidN K k ms))) (fun i _ => m - (intOf i).toNat)
    case atStart => exact ⟨0, rfl, Nat.zero_le _, HC4⟩
    case round =>
      obtain ⟨k, rfl, hk, hcp⟩ := hrel
      clear HC4
      by_cases hlt : k < m
      · have hilt : (k : Int) < (m : Int) := by omega
        have hkl : k < ms.length := by rw [← HM.out]; exact hlt
        obtain ⟨y, hy⟩ : ∃ y, ms[k]? = some y := ⟨_, List.getElem?_eq_getElem hkl⟩
        obtain ⟨g, gc, hvm, g0, g1, g2, gf, hset⟩ := hcp.out.setBind (hidN_at (keep := K) hy)
        rw [hidN_length, ← HM.out] at hvm
        injection hvm with hb2 hz1 hz2
        subst hb2
        clear hz1 hz2
        have o1 : wr.cell? ⟨Q, 1, none⟩ = some (.slice (some ⟨g, 0, none⟩) m d2) := hcp.out.ob.obj.cell 1
        have HSET := hidden (hset 0)
        have HY := hidden hy
        have HKC : Hid (∀ j x, K[j]? = some x → ∃ b o, ka = some ⟨b, o, none⟩ ∧ wr.cell? ⟨b, o + j, none⟩ = some (.string x)) := fun j x hj => by
          obtain ⟨b, o, e, _, hc⟩ := (HKV.out.below hcp.out.below) (by rw [List.length_map]; have := (List.getElem?_eq_some_iff.1 hj).1; omega)
          exact ⟨b, o, e, hc j _ (by rw [List.getElem?_map, hj]; rfl)⟩
        obtain ⟨f0, hf0⟩ : ∃ q, decide (y.loc = -1) = q := ⟨_, rfl⟩
        have hd0 : (y.loc == -1) = f0 := by rw [← hf0]; by_cases e : y.loc = -1 <;> simp [e]
        have HF0 := hidden hf0
        clear hkl hy hset hlt hf0
        go_wp2_with fail
        go_loopw [7, 8] (fun fv i ws => ∃ j : Nat, i = .int .i64 j ∧ fv = .bool (f0 || (K.take j).any fun x => decide (x = y.name)) ∧ j ≤ nk ∧ ∃ z, ws = wr.drewN z) (fun _ i _ => nk - (intOf i).toNat)
        case atStart => exact ⟨0, rfl, by simp, Nat.zero_le _, 0, rfl⟩
        case round =>
          obtain ⟨j, rfl, rfl, hj, z, rfl⟩ := hrel
          by_cases hltj : j < nk
          · have hiltj : (j : Int) < (nk : Int) := by omega
            obtain ⟨x, hx⟩ : ∃ x, K[j]? = some x := ⟨_, List.getElem?_eq_getElem (by rw [HKN.out]; exact hltj)⟩
            obtain ⟨kb, ko, rfl, hkc⟩ := HKC.out j x hx
            obtain ⟨fj, hfj⟩ : ∃ q, (f0 || (K.take j).any fun x => decide (x = y.name)) = q := ⟨_, rfl⟩
            have HFN : Hid ((f0 || (K.take (j + 1)).any fun x => decide (x = y.name)) = (fj || decide (x = y.name))) := by
              show _ = _
              rw [take_next hx, List.any_append, ← hfj, Bool.or_assoc]; simp
            have e0 : (wr.drewN z).drew.cell? ⟨Q, 1, none⟩ = some (.slice (some ⟨g, 0, none⟩) m d2) := o1
            have e1 : (wr.drewN z).drew.cell? ⟨g, k * 4, none⟩ = some (.string y.name) := g0
            have e2 : (wr.drewN z).drew.cell? ⟨kb, ko + j, none⟩ = some (.string x) := hkc
            have eq0 : ∀ q, (wr.drewN q).cell? ⟨Q, 1, none⟩ = some (.slice (some ⟨g, 0, none⟩) m d2) := fun _ => o1
            have eq1 : ∀ q, (wr.drewN q).cell? ⟨g, k * 4, none⟩ = some (.string y.name) := fun _ => g0
            have eq2 : ∀ q, (wr.drewN q).cell? ⟨kb, ko + j, none⟩ = some (.string x) := fun _ => hkc
            rw [hfj]
            clear hltj hx hkc hfj
            cases fj with
            | true =>
              have HFN' : Hid ((f0 || (K.take (j + 1)).any fun x => decide (x = y.name)) = true) := by show _ = _; rw [HFN.out]; rfl
              clear HFN
              go_wp2_with fail
              go_quiet (fail)
              go_wp2_with fail
              go_roundw
              case rel => exact ⟨j + 1, by go_num, by rw [HFN'.out], by omega, _, rfl⟩
              case measure => simp [intOf]; omega
            | false =>
              have hd : (x.toList == y.name.toList) = decide (x = y.name) := by
                by_cases e : x = y.name
                · rw [e]; simp
                · rw [str_ne e, decide_eq_false e]
              obtain ⟨t, ht⟩ : ∃ q, decide (x = y.name) = q := ⟨_, rfl⟩
              rw [ht] at hd
              have HFN' : Hid ((f0 || (K.take (j + 1)).any fun x => decide (x = y.name)) = t) := by show _ = _; rw [HFN.out, ht]; rfl
              clear HFN ht
              go_wp2_with fail
              go_quiet (fail)
              go_wp2_with fail
              go_roundw
              case rel => exact ⟨j + 1, by go_num, by rw [HFN'.out], by omega, _, rfl⟩
              case measure => simp [intOf]; omega
          · have hiltj : ¬ (j : Int) < (nk : Int) := by omega
            have HST : Hid (stayB K y = (f0 || (K.take j).any fun x => decide (x = y.name))) := by
              show _ = _
              unfold stayB
              rw [HF0.out, List.take_of_length_le (by rw [HKN.out]; omega)]
            obtain ⟨fj, hfj⟩ : ∃ q, (f0 || (K.take j).any fun x => decide (x = y.name)) = q := ⟨_, rfl⟩
            rw [hfj] at HST
            have eq0 : (wr.drewN z).cell? ⟨Q, 1, none⟩ = some (.slice (some ⟨g, 0, none⟩) m d2) := o1
            have eq1 : (wr.drewN z).cell? ⟨g, k * 4 + 1, none⟩ = some (.int .i64 y.bind) := g1
            have eq2 : (wr.drewN z).frozen? ⟨g, k * 4 + 1, none⟩ = false := gf
            rw [hfj]
            clear hltj hfj
            cases fj with
            | true =>
              have HCN : Hid (CpS w (wr.drewN z) (.slice a1 n c1) (.slice a2 m c2) Q (.slice b1 n d1) (.slice (some ⟨g, 0, none⟩) m d2) L (hidN K (k + 1) ms)) := by
                rw [hide_yes HY.out HST.out]
                exact hcp.out.only (below_drewN (Below.refl _ _) z)
              clear HSET HST
              go_wp2_with fail
              go_roundw
              case rel => exact ⟨k + 1, by go_num, by omega, HCN⟩
              case measure => simp [intOf]; omega
            | false =>
              have HCN : Hid (CpS w ((wr.drewN z).setCell ⟨g, k * 4 + 1, none⟩ (.int .i64 0)) (.slice a1 n c1) (.slice a2 m c2) Q (.slice b1 n d1) (.slice (some ⟨g, 0, none⟩) m d2) L (hidN K (k + 1) ms)) := by
                rw [hide_no HY.out HST.out]
                exact HSET.out.only ⟨rfl, rfl, rfl, Nat.le_refl _, fun _ _ => rfl⟩
              clear HSET HST
              go_wp2_with fail
              go_roundw
              case rel => exact ⟨k + 1, by go_num, by omega, HCN⟩
              case measure => simp [intOf]; omega
      · have hilt : ¬ (k : Int) < (m : Int) := by omega
        have hkm' : k = m := by omega
        subst hkm'
        have HAW := hidden (hcp.out.answer HLN.out.symm (by rw [hidN_length]; exact HM.out))
        have o0 : wr.cell? ⟨Q, 0, none⟩ = some (.slice b1 n d1) := hcp.out.ob.obj.cell 0
        have o1 : wr.cell? ⟨Q, 1, none⟩ = some (.slice b2 k d2) := hcp.out.ob.obj.cell 1
        have r0 : wr.cell? ⟨w.heap.size + 1, 0, none⟩ = some (.slice none 0 0) := hcp.out.res.cell 0
        have r1 : wr.cell? ⟨w.heap.size + 1, 1, none⟩ = some (.slice none 0 0) := hcp.out.res.cell 1
        have u0 : wr.frozen? ⟨w.heap.size + 1, 0, none⟩ = false := hcp.out.res.free 0
        have u1 : wr.frozen? ⟨w.heap.size + 1, 1, none⟩ = false := hcp.out.res.free 1
        clear hlt hcp hk
        go_wp2_with fail
        refine bodyPost_ret (results_cell_row rfl _ _ (w.heap.size + 1) 26 #[.slice b1 n d1, .slice b2 k d2] (0, 0) _ rfl HAW.out.1 Try.underlying26 rfl (by kernel_rfl)) rfl ?_
        rw [HAN.out]
        have := HAW.out.2
        rw [HLS.out] at this
        have e : hidN K k ms = ms.map (hideM K) := by
          have hk2 := HM.out
          rw [hk2]; exact hidN_all K ms
        rw [e] at this
        exact this

set_option maxRecDepth 100000 in
set_option maxHeartbeats 4000000 in
theorem contains_any (w : World) (B : Nat) (K : List ByteArray) (ka : Option Addr) (nk kc : Nat) (hkv : Vals w B ka (K.map Value.string)) (hkn : K.length = nk) (hkm : nk ≤ 1048576) (x : ByteArray) :
    Calls Try.prog 32 #[.slice ka nk kc, .string x] w fun e w' => e = .returned (.bool (K.any fun z => decide (z = x))) ∧ w = w' := by
  have hc : ∀ z : List ByteArray, Lib.containsS z x = z.any fun y => decide (y = x) := fun z => by
    rw [Bool.eq_iff_iff, Lib.containsS_iff, List.any_eq_true]
    exact ⟨fun h => ⟨x, h, by simp⟩, fun ⟨y, h1, h2⟩ => by rw [← of_decide_eq_true h2]; exact h1⟩
  rcases Nat.eq_zero_or_pos nk with rfl | hp
  · obtain rfl : K = [] := List.eq_nil_of_length_eq_zero hkn
    exact (Try.slices_Contains_string_empty ka kc x w).mono fun e w' ⟨h1, h2⟩ => ⟨h1, h2.symm⟩
  · obtain ⟨b, o, rfl, _, hcc⟩ := hkv (by rw [List.length_map, hkn]; exact hp)
    refine (Try.slices_Contains_string b o nk kc K x w (by omega) (by omega) (fun j hj => hcc j _ ?_)).mono fun e w' ⟨h1, h2⟩ => ⟨?_, h2.symm⟩
    · rw [List.getElem?_map, List.getD_eq_getElem?_getD, List.getElem?_eq_getElem hj]; rfl
    · rw [h1, List.take_of_length_le (by omega), hc]
set_option maxRecDepth 100000 in
set_option maxHeartbeats 4000000 in
theorem hideNames_any (w : World) (B : Nat) (a1 a2 : Option Addr) (c1 c2 n m : Nat) (l : List Sp) (ms : List Sm) (hn : n = l.length) (hm : m = ms.length) (h1 : Sects w B a1 l) (h2 : Syms w B a2 ms) (hB : B ≤ w.heap.size) (hlen : n ≤ 9223372036854775807) (hlem : m ≤ 9223372036854775807) (hl : ∀ y ∈ l, y.s.fits) (hs : ∀ x ∈ ms, x.fits) (hnm : ∀ y ∈ l, y.s.name.size ≤ 1048576)
    (K : List ByteArray) (ka : Option Addr) (nk kc : Nat) (hkv : Vals w B ka (K.map Value.string)) (hkn : K.length = nk) (hkm : nk ≤ 1048576) :
    Calls Try.prog 8 #[.agg #[.slice a1 n c1, .slice a2 m c2], .slice ka nk kc] w (AnsO w (hideA K (l.map Sp.s) ms)) := by
  have hA : Has ((w.alloc (.cells #[.slice a1 n c1, .slice a2 m c2] 26)).alloc (.cells #[.slice none 0 0, .slice none 0 0] 26)) w.heap.size 26 #[.slice a1 n c1, .slice a2 m c2] := (Has.new _ _ _).alloc _
  have hBa : Below w.heap.size w ((w.alloc (.cells #[.slice a1 n c1, .slice a2 m c2] 26)).alloc (.cells #[.slice none 0 0, .slice none 0 0] 26)) := ((Below.refl _ _).alloc (Nat.le_refl _) _).alloc (by simp) _
  have hR : Has ((w.alloc (.cells #[.slice a1 n c1, .slice a2 m c2] 26)).alloc (.cells #[.slice none 0 0, .slice none 0 0] 26)) (w.heap.size + 1) 26 #[.slice none 0 0, .slice none 0 0] := by
    have := Has.new (w.alloc (.cells #[.slice a1 n c1, .slice a2 m c2] 26)) 26 #[.slice none 0 0, .slice none 0 0]
    simpa using this
  obtain ⟨W2, hW2⟩ : ∃ q, ((w.alloc (.cells #[.slice a1 n c1, .slice a2 m c2] 26)).alloc (.cells #[.slice none 0 0, .slice none 0 0] 26)) = q := ⟨_, rfl⟩
  rw [hW2] at hA hBa hR
  have HW2 := hidden hW2
  have x0 : W2.cell? ⟨w.heap.size, 0, none⟩ = some (.slice a1 n c1) := hA.cell 0
  have x1 : W2.cell? ⟨w.heap.size, 1, none⟩ = some (.slice a2 m c2) := hA.cell 1
  have HN := hidden hn
  have HM := hidden hm
  have HKV := hidden (hkv.more hB)
  have HKN := hidden hkn
  have H1 := hidden (h1.more hB)
  have H2 := hidden (h2.more hB)
  have HOV := hidden (objectValid_any W2 w.heap.size a1 a2 c1 c2 n m l ms hn hm ((h1.more hB).below hBa) ((h2.more hB).below hBa) hBa.size hlen hlem hl hs)
  obtain ⟨ok, hok⟩ : ∃ q, objOk (l.map Sp.s) ms = q := ⟨_, rfl⟩
  rw [hok] at HOV
  have HOK := hidden hok
  have HA2 := hidden hA
  have HR2 := hidden hR
  have HBA := hidden hBa
  have HNM := hidden hnm
  clear h1 h2 hl hs hB hW2 hn hm hA hR hBa hok hkv hkn hnm
  go_enter Try.func8, Try.ntmps8
  go_upto_region 1 with fail
  rw [HW2.out]
  clear HW2
  go_wp2_with fail
  refine HOV.out.mono ?_
  clear HOV x0 x1
  rintro e wc ⟨rfl, hb3⟩
  have hA := HA2.out.below hb3 HA2.out.lt
  have hR := HR2.out.below hb3 HR2.out.lt
  have HBC := hidden (HBA.out.trans (hb3.mono HBA.out.size))
  have HA := hidden hA
  have HR := hidden hR
  clear HA2 HR2 HBA hb3
  cases ok with
  | false =>
    have r0 : wc.cell? ⟨w.heap.size + 1, 0, none⟩ = some (.slice none 0 0) := hR.cell 0
    have r1 : wc.cell? ⟨w.heap.size + 1, 1, none⟩ = some (.slice none 0 0) := hR.cell 1
    have u0 : wc.frozen? ⟨w.heap.size + 1, 0, none⟩ = false := hR.free 0
    have u1 : wc.frozen? ⟨w.heap.size + 1, 1, none⟩ = false := hR.free 1
    have HAN : Hid (hideA K (l.map Sp.s) ms = ([], [])) := by
      show _ = _
      unfold hideA
      rw [HOK.out]; rfl
    clear hA hR
    go_wp2_with fail
    have p1 := (HR.out.put 0 (.slice none 0 0)).put 1 (.slice none 0 0)
    have hb7 : Below w.heap.size w ((wc.setCell ⟨w.heap.size + 1, 0, none⟩ (.slice none 0 0)).setCell ⟨w.heap.size + 1, 1, none⟩ (.slice none 0 0)) := HBC.out.grown (only_trans (only_put' 0 _) (only_put' 1 _)) HBC.out.size (by intro q hq; injection hq with hq; omega)
    refine bodyPost_ret (results_cell_row rfl _ _ (w.heap.size + 1) 26 #[.slice none 0 0, .slice none 0 0] (0, 0) _ rfl p1 Try.underlying26 rfl (by kernel_rfl)) rfl ?_
    rw [HAN.out]
    exact ansO_none _ _ hb7
  | true =>
    have hpa := objOk_parts HOK.out
    have hm12 : m ≤ 12 := by rw [HM.out]; exact hpa.2.1
    have hn8 : n ≤ 8 := by rw [HN.out]; have := hpa.1; rwa [List.length_map] at this
    have hsh : ∀ y ∈ l, y.s.short := fun y hy => by
      obtain ⟨g1, g2, _⟩ := hpa.2.2 y.s (List.mem_map_of_mem hy)
      exact ⟨HNM.out y hy, by omega, by omega⟩
    have HCP := hidden (copyObject_any wc w.heap.size a1 a2 c1 c2 n m l ms HN.out HM.out (H1.out.below HBC.out) (H2.out.below HBC.out) HBC.out.size (by omega) (by omega) hsh)
    have HAN : Hid (hideA K (l.map Sp.s) ms = (l.map Sp.s, ms.map (hideM K))) := by
      show _ = _
      unfold hideA
      rw [if_pos HOK.out]
    have x0 : wc.cell? ⟨w.heap.size, 0, none⟩ = some (.slice a1 n c1) := hA.cell 0
    have x1 : wc.cell? ⟨w.heap.size, 1, none⟩ = some (.slice a2 m c2) := hA.cell 1
    clear hpa hn8 hsh hA hR HNM
    go_wp2_with fail
    refine HCP.out.mono ?_
    clear HCP x0 x1
    rintro e w3 ⟨L, b1, b2, d1, d2, rfl, hLs, hown, hb3⟩
    dsimp only at hLs hown
    have hLn : L.length = n := by have := congrArg List.length hLs; rw [List.length_map, List.length_map] at this; rw [this]; exact HN.out.symm
    have hMm : ms.length = m := HM.out.symm
    rw [hLn, hMm] at hown
    dsimp only
    rw [hLn, hMm]
    have hC4 : CpS w (w3.alloc (.cells #[.slice b1 n d1, .slice b2 m d2] 26)) (.slice a1 n c1) (.slice a2 m c2) w3.heap.size (.slice b1 n d1) (.slice b2 m d2) L (hidN K 0 ms) := by
      refine ⟨(HBC.out.trans (hb3.mono HBC.out.size)).alloc (Nat.le_trans HBC.out.size hb3.size) _, (HA.out.below hb3 HA.out.lt).alloc _, (HR.out.below hb3 HR.out.lt).alloc _, ⟨Has.new _ _ _, (hown.secs.lower HBC.out.size).alloc _, ?_⟩, Nat.lt_of_lt_of_le HR.out.lt hb3.size⟩
      rw [hidN_start, hMm]; exact (row_lower hown.syms HBC.out.size).alloc _
    obtain ⟨Q, hQ⟩ : ∃ q, w3.heap.size = q := ⟨_, rfl⟩
    obtain ⟨W4, hW4⟩ : ∃ q, w3.alloc (.cells #[.slice b1 n d1, .slice b2 m d2] 26) = q := ⟨_, rfl⟩
    rw [hW4, hQ] at hC4
    have HW4 := hidden hW4
    have HQ := hidden hQ
    have HC4 := hidden hC4
    have HLS := hidden hLs
    have HLN := hidden hLn
    have q1 : W4.cell? ⟨w.heap.size, 1, none⟩ = some (.slice a2 m c2) := hC4.arg.cell 1
    clear hown hb3 hMm hC4 hW4 hQ hLs hLn HA HR HBC
    go_upto_region 4 with fail
    rw [HW4.out, HQ.out]
    clear HW4 HQ
    go_wp2_with fail
    clear q1
    go_loopw [17] (fun i wr => ∃ k : Nat, i = .int .i64 k ∧ k ≤ m ∧ Hid (CpS w wr (.slice a1 n c1) (.slice a2 m c2) Q (.slice b1 n d1) (.slice b2 m d2) L (hidN K k ms))) (fun i _ => m - (intOf i).toNat)
    case atStart => exact ⟨0, rfl, Nat.zero_le _, HC4⟩
    case round =>
      obtain ⟨k, rfl, hk, hcp⟩ := hrel
      clear HC4
      by_cases hlt : k < m
      · have hilt : (k : Int) < (m : Int) := by omega
        have hkl : k < ms.length := by rw [← HM.out]; exact hlt
        obtain ⟨b, off, rfl, hbB, p0, p1, p2, p3⟩ := (H2.out.below hcp.out.below).at_ hkl
        obtain ⟨y, hye⟩ : ∃ y, ms[k] = y := ⟨_, rfl⟩
        rw [hye] at p0 p1 p2 p3
        have hy : ms[k]? = some y := by rw [List.getElem?_eq_getElem hkl, hye]
        have hS : Has (wr.alloc (.cells #[.string y.name, .int .i64 y.bind, .int .i64 y.loc, .int .i64 y.value] 54)) wr.heap.size 54 #[.string y.name, .int .i64 y.bind, .int .i64 y.loc, .int .i64 y.value] := Has.new _ _ _
        have hca := hcp.out.only ((Below.refl _ _).alloc (Nat.le_refl _) (.cells #[.string y.name, .int .i64 y.bind, .int .i64 y.loc, .int .i64 y.value] 54))
        obtain ⟨W6, hW6⟩ : ∃ q, wr.alloc (.cells #[.string y.name, .int .i64 y.bind, .int .i64 y.loc, .int .i64 y.value] 54) = q := ⟨_, rfl⟩
        obtain ⟨sb, hsb⟩ : ∃ q, wr.heap.size = q := ⟨_, rfl⟩
        rw [hW6, hsb] at hS
        rw [hW6] at hca
        obtain ⟨g, gc, hvm, g0, g1, g2, gf, hset⟩ := hca.setBind (hidN_at (keep := K) hy)
        rw [hidN_length, ← HM.out] at hvm
        injection hvm with hb2 hz1 hz2
        subst hb2
        clear hz1 hz2
        have o1 : W6.cell? ⟨Q, 1, none⟩ = some (.slice (some ⟨g, 0, none⟩) m d2) := hca.ob.obj.cell 1
        have s0 : W6.cell? ⟨sb, 0, none⟩ = some (.string y.name) := hS.cell 0
        have s2 : W6.cell? ⟨sb, 2, none⟩ = some (.int .i64 y.loc) := hS.cell 2
        have HCT := hidden (contains_any W6 w.heap.size K ka nk kc (HKV.out.below hca.below) HKN.out hkm y.name)
        have HSET := hidden (hset 0)
        have HCA := hidden hca
        have HY := hidden hy
        have HW6 := hidden hW6
        have HSB := hidden hsb
        obtain ⟨t, ht⟩ : ∃ q, (K.any fun z => decide (z = y.name)) = q := ⟨_, rfl⟩
        rw [ht] at HCT
        have HST : Hid (stayB K y = (decide (y.loc = -1) || t)) := by show _ = _; unfold stayB; rw [ht]
        clear hkl hbB hye hy hS hca hW6 hsb hset hlt ht hcp g0 g2
        go_upto_region 7 with fail
        rw [HW6.out, HSB.out]
        clear p0 p1 p2 p3 HW6 HSB
        by_cases hloc : y.loc = -1
        · have hd : (y.loc == -1) = true := by rw [hloc]; rfl
          have hd2 : (y.loc != -1) = false := by rw [hloc]; rfl
          have HCN : Hid (CpS w W6 (.slice a1 n c1) (.slice (some ⟨b, off, none⟩) m c2) Q (.slice b1 n d1) (.slice (some ⟨g, 0, none⟩) m d2) L (hidN K (k + 1) ms)) := by
            rw [hide_yes HY.out (by rw [HST.out, hloc]; rfl)]
            exact HCA.out
          clear HSET HST HCT HCA
          go_wp2_with fail
          go_roundw
          case rel => exact ⟨k + 1, by go_num, by omega, HCN⟩
          case measure => simp [intOf]; omega
        · have hd : (y.loc == -1) = false := by simp [hloc]
          have hd2 : (y.loc != -1) = true := by simp [hloc]
          go_wp2_with fail
          refine HCT.out.mono ?_
          clear HCT s0 s2
          rintro e _ ⟨rfl, rfl⟩
          cases t with
          | true =>
            have HCN : Hid (CpS w W6 (.slice a1 n c1) (.slice (some ⟨b, off, none⟩) m c2) Q (.slice b1 n d1) (.slice (some ⟨g, 0, none⟩) m d2) L (hidN K (k + 1) ms)) := by
              rw [hide_yes HY.out (by rw [HST.out]; simp)]
              exact HCA.out
            clear HSET HST HCA
            go_wp2_with fail
            go_roundw
            case rel => exact ⟨k + 1, by go_num, by omega, HCN⟩
            case measure => simp [intOf]; omega
          | false =>
            have HCN : Hid (CpS w (W6.setCell ⟨g, k * 4 + 1, none⟩ (.int .i64 0)) (.slice a1 n c1) (.slice (some ⟨b, off, none⟩) m c2) Q (.slice b1 n d1) (.slice (some ⟨g, 0, none⟩) m d2) L (hidN K (k + 1) ms)) := by
              rw [hide_no HY.out (by rw [HST.out, decide_eq_false hloc]; rfl)]
              exact HSET.out
            clear HSET HST HCA
            go_wp2_with fail
            go_roundw
            case rel => exact ⟨k + 1, by go_num, by omega, HCN⟩
            case measure => simp [intOf]; omega
      · have hilt : ¬ (k : Int) < (m : Int) := by omega
        have hkm' : k = m := by omega
        subst hkm'
        have HAW := hidden (hcp.out.answer HLN.out.symm (by rw [hidN_length]; exact HM.out))
        have o0 : wr.cell? ⟨Q, 0, none⟩ = some (.slice b1 n d1) := hcp.out.ob.obj.cell 0
        have o1 : wr.cell? ⟨Q, 1, none⟩ = some (.slice b2 k d2) := hcp.out.ob.obj.cell 1
        have r0 : wr.cell? ⟨w.heap.size + 1, 0, none⟩ = some (.slice none 0 0) := hcp.out.res.cell 0
        have r1 : wr.cell? ⟨w.heap.size + 1, 1, none⟩ = some (.slice none 0 0) := hcp.out.res.cell 1
        have u0 : wr.frozen? ⟨w.heap.size + 1, 0, none⟩ = false := hcp.out.res.free 0
        have u1 : wr.frozen? ⟨w.heap.size + 1, 1, none⟩ = false := hcp.out.res.free 1
        clear hlt hcp hk
        go_wp2_with fail
        refine bodyPost_ret (results_cell_row rfl _ _ (w.heap.size + 1) 26 #[.slice b1 n d1, .slice b2 k d2] (0, 0) _ rfl HAW.out.1 Try.underlying26 rfl (by kernel_rfl)) rfl ?_
        rw [HAN.out]
        have := HAW.out.2
        rw [HLS.out] at this
        have e : hidN K k ms = ms.map (hideM K) := by
          have hk2 := HM.out
          rw [hk2]; exact hidN_all K ms
        rw [e] at this
        exact this

end Go.Proofs.Ytlkhfgfficehcaa

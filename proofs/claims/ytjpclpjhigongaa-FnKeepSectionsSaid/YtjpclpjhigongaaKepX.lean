/-
  impl.KeepSections.
-/
import Derived.Test.YtjpclpjhigongaaKepJ
import Derived.Test.YtjpclpjhigongaaObI
import Derived.Deep.RegionWith
namespace Go.Proofs.Ytjpclpjhigongaa
open Go.RowKit

set_option maxRecDepth 100000 in
set_option maxHeartbeats 8000000 in
theorem keepSections_any (w : World) (B : Nat) (a1 a2 : Option Addr) (c1 c2 n m : Nat) (l : List Sp) (ms : List Sm) (hn : n = l.length) (hm : m = ms.length) (h1 : Sects w B a1 l) (h2 : Syms w B a2 ms) (hB : B ≤ w.heap.size) (hlen : n ≤ 9223372036854775807) (hlem : m ≤ 9223372036854775807) (hl : ∀ y ∈ l, y.s.fits) (hs : ∀ x ∈ ms, x.fits) (hnm : ∀ y ∈ l, y.s.name.size ≤ 1048576)
    (Q : List Int) (ka : Option Addr) (nk kc : Nat) (hkv : Vals w B ka (Q.map (Value.int .i64))) (hkn : Q.length = nk) (hkm : nk ≤ 1048576) (A : List Sx × List Sm) (okb : Bool) (N M : Nat) (hA : keepR (marksQ n Q) (l.map Sp.s) ms = (A, okb)) (hN : A.1.length = N) (hM : A.2.length = M) :
    Calls Try.prog 6 #[.agg #[.slice a1 n c1, .slice a2 m c2], .slice ka nk kc] w (AnsB w A okb N M) := by
  have hA2 : Has ((w.alloc (.cells #[.slice a1 n c1, .slice a2 m c2] 26)).alloc (.cells #[.slice none 0 0, .slice none 0 0] 26)) w.heap.size 26 #[.slice a1 n c1, .slice a2 m c2] := (Has.new _ _ _).alloc _
  have hBa : Below w.heap.size w ((w.alloc (.cells #[.slice a1 n c1, .slice a2 m c2] 26)).alloc (.cells #[.slice none 0 0, .slice none 0 0] 26)) := ((Below.refl _ _).alloc (Nat.le_refl _) _).alloc (by simp) _
  have hR : Has ((w.alloc (.cells #[.slice a1 n c1, .slice a2 m c2] 26)).alloc (.cells #[.slice none 0 0, .slice none 0 0] 26)) (w.heap.size + 1) 26 #[.slice none 0 0, .slice none 0 0] := by
    have := Has.new (w.alloc (.cells #[.slice a1 n c1, .slice a2 m c2] 26)) 26 #[.slice none 0 0, .slice none 0 0]
    simpa using this
  obtain ⟨W2, hW2⟩ : ∃ q, ((w.alloc (.cells #[.slice a1 n c1, .slice a2 m c2] 26)).alloc (.cells #[.slice none 0 0, .slice none 0 0] 26)) = q := ⟨_, rfl⟩
  rw [hW2] at hA2 hBa hR
  have HW2 := hidden hW2
  have x0 : W2.cell? ⟨w.heap.size, 0, none⟩ = some (.slice a1 n c1) := hA2.cell 0
  have x1 : W2.cell? ⟨w.heap.size, 1, none⟩ = some (.slice a2 m c2) := hA2.cell 1
  have HN := hidden hn
  have HM := hidden hm
  have HKV := hidden (hkv.more hB)
  have HKN := hidden hkn
  have H1 := hidden (h1.more hB)
  have H2 := hidden (h2.more hB)
  have HNM := hidden hnm
  have HOV := hidden (objectValid_any W2 w.heap.size a1 a2 c1 c2 n m l ms hn hm ((h1.more hB).below hBa) ((h2.more hB).below hBa) hBa.size hlen hlem hl hs)
  obtain ⟨ok, hok⟩ : ∃ q, objOk (l.map Sp.s) ms = q := ⟨_, rfl⟩
  rw [hok] at HOV
  have HOK := hidden hok
  have HA2 := hidden hA2
  have HR2 := hidden hR
  have HBA := hidden hBa
  have HAA := hidden hA
  have HNE := hidden hN
  have HME := hidden hM
  clear h1 h2 hl hs hB hW2 hn hm hA2 hR hBa hok hnm hkv hkn hA hN hM
  go_enter Try.func6, Try.ntmps6
  go_upto_region 1 with fail
  rw [HW2.out]
  clear HW2
  go_wp2_with fail
  refine HOV.out.mono ?_
  clear HOV x0 x1
  rintro e wc ⟨rfl, hb3⟩
  have HA := hidden (HA2.out.below hb3 HA2.out.lt)
  have HR := hidden (HR2.out.below hb3 HR2.out.lt)
  have HBC := hidden (HBA.out.trans (hb3.mono HBA.out.size))
  clear HA2 HR2 HBA hb3
  cases ok with
  | false =>
    have r0 : wc.cell? ⟨w.heap.size + 1, 0, none⟩ = some (.slice none 0 0) := HR.out.cell 0
    have r1 : wc.cell? ⟨w.heap.size + 1, 1, none⟩ = some (.slice none 0 0) := HR.out.cell 1
    have u0 : wc.frozen? ⟨w.heap.size + 1, 0, none⟩ = false := HR.out.free 0
    have u1 : wc.frozen? ⟨w.heap.size + 1, 1, none⟩ = false := HR.out.free 1
    have HAN : Hid (A = ([], []) ∧ okb = false) := keepR_no HAA.out (.inl HOK.out)
    have HAB := hidden (ansB_none HR.out HBC.out HAN.out.1 HAN.out.2 HNE.out HME.out)
    go_wp2_with fail
    refine bodyPost_ret (results_cell_rowT rfl _ _ (w.heap.size + 1) 26 #[.slice none 0 0, .slice none 0 0] (0, 0) _ rfl HAB.out.1 Try.underlying26 rfl (by kernel_rfl)) rfl ?_
    exact HAB.out.2
  | true =>
    have hpa := objOk_parts HOK.out
    have hm12 : m ≤ 12 := by rw [HM.out]; exact hpa.2.1
    have hn8 : n ≤ 8 := by rw [HN.out]; have := hpa.1; rwa [List.length_map] at this
    have HSH : Hid (∀ y ∈ l, y.s.short) := fun y hy => by
      obtain ⟨g1, g2, _⟩ := hpa.2.2 y.s (List.mem_map_of_mem hy)
      exact ⟨HNM.out y hy, by omega, by omega⟩
    have HTO : Hid (∀ y ∈ l, ∀ f ∈ y.s.fixs, 0 ≤ f.to ∧ f.to < m) := fun y hy f hf => by
      rw [HM.out]; exact (hpa.2.2 y.s (List.mem_map_of_mem hy)).2.2 f hf
    have HLI : Hid (∀ y ∈ ms, 0 ≤ y.loc → y.loc.toNat < n) := fun y hy h0 => by
      have := loc_in HOK.out hy h0
      rwa [List.length_map, ← HN.out] at this
    obtain ⟨kp, hkp⟩ : ∃ q, marksQ n Q = q := ⟨_, rfl⟩
    have hkl : kp.length = n := by rw [← hkp, marksQ_length]
    have HKL := hidden hkl
    rw [hkp] at HAA
    obtain ⟨KN, hKN⟩ : ∃ q, numsM 0 kp = q := ⟨_, rfl⟩
    obtain ⟨nn, hnn⟩ : ∃ q, KN.length = q := ⟨_, rfl⟩
    have hnn8 : nn ≤ 8 := by rw [← hnn, ← hKN]; have := numsM_le 0 kp; omega
    have HSI := hidden (sectionsIn_any wc w.heap.size a1 a2 c1 c2 n m Q ka nk kc (HKV.out.below HBC.out) HKN.out hkm HBC.out.size hn8 nn (by rw [hkp, hKN, hnn]))
    rw [hkp, hKN] at HSI
    have HKQ := hidden hKN
    have HNNE := hidden hnn
    have x0 : wc.cell? ⟨w.heap.size, 0, none⟩ = some (.slice a1 n c1) := HA.out.cell 0
    have x1 : wc.cell? ⟨w.heap.size, 1, none⟩ = some (.slice a2 m c2) := HA.out.cell 1
    clear hpa hkp hkl hKN hnn HKV HNM
    go_wp2_with fail
    refine HSI.out.mono ?_
    clear HSI x0 x1
    rintro e w5 ⟨ca, cc, rfl, -, hrowk, hb5⟩
    have hb56 : Below w5.heap.size w5 (w5.alloc (.cells #[.slice ca nn cc] 27)) := (Below.refl _ _).alloc (Nat.le_refl _) _
    have hK6 : Has (w5.alloc (.cells #[.slice ca nn cc] 27)) w5.heap.size 27 #[.slice ca nn cc] := Has.new _ _ _
    obtain ⟨W6, hW6⟩ : ∃ q, w5.alloc (.cells #[.slice ca nn cc] 27) = q := ⟨_, rfl⟩
    obtain ⟨kb, hkb⟩ : ∃ q, w5.heap.size = q := ⟨_, rfl⟩
    rw [hW6] at hb56
    rw [hW6, hkb] at hK6
    have hb6 : Below wc.heap.size wc W6 := hb5.trans (hb56.mono hb5.size)
    have HA6 := hidden (HA.out.below hb6 HA.out.lt)
    have HR6 := hidden (HR.out.below hb6 HR.out.lt)
    have HB6 := hidden (HBC.out.trans (hb6.mono HBC.out.size))
    have HV6 := hidden (own_vals (hrowk.kept (grown_only hb56) (Classical.em _)) HNNE.out.symm)
    have HK6 := hidden hK6
    have HSW := hidden (symbolsWhere_by W6 w.heap.size a1 a2 c1 c2 n m ms (goesM kp) kb HM.out (H2.out.below HB6.out) HB6.out.size hm12 (fun W y hW => by
      have := goes_test W kb KN ca nn cc ((HK6.out.below hW HK6.out.lt).cell 0) ((HV6.out.below hW).more hW.size) HNNE.out (by omega) y
      rw [← HKQ.out] at this
      exact this))
    have x0 : W6.cell? ⟨w.heap.size, 0, none⟩ = some (.slice a1 n c1) := HA6.out.cell 0
    have x1 : W6.cell? ⟨w.heap.size, 1, none⟩ = some (.slice a2 m c2) := HA6.out.cell 1
    have HW6 := hidden hW6
    have HKB := hidden hkb
    clear HA HR HBC hb5 hb56 hb6 hrowk hK6 hW6 hkb
    go_upto_region 4 with fail
    rw [HW6.out, HKB.out]
    clear HW6 HKB
    go_wp2_with fail
    refine HSW.out.mono ?_
    clear HSW x0 x1
    rintro e w7 ⟨⟨MM, rfl, hMM⟩, hb7⟩
    have HMM := hidden hMM
    -- what stays of the time before the part
    have HX : Hid (∀ W, Below w7.heap.size w7 W → Below w.heap.size w W ∧ Has W w.heap.size 26 #[.slice a1 n c1, .slice a2 m c2] ∧ Has W (w.heap.size + 1) 26 #[.slice none 0 0, .slice none 0 0] ∧ Has W kb 27 #[.slice ca nn cc] ∧ Vals W W.heap.size ca (KN.map (Value.int .i64)) ∧ Sects W w7.heap.size a1 l ∧ Syms W w7.heap.size a2 ms) := fun W hW => by
      have h67 : Below W6.heap.size W6 W := hb7.trans (hW.mono hb7.size)
      have hbw : Below w.heap.size w W := HB6.out.trans (h67.mono HB6.out.size)
      exact ⟨hbw, HA6.out.below h67 HA6.out.lt, HR6.out.below h67 HR6.out.lt, HK6.out.below h67 HK6.out.lt, (HV6.out.below h67).more h67.size, ((H1.out.below hbw).more (Nat.le_trans HB6.out.size hb7.size)), ((H2.out.below hbw).more (Nat.le_trans HB6.out.size hb7.size))⟩
    have HRL : Hid (w.heap.size + 1 < w7.heap.size) := Nat.lt_of_lt_of_le HR6.out.lt hb7.size
    have x1 : w7.cell? ⟨w.heap.size, 1, none⟩ = some (.slice a2 m c2) := (HX.out w7 (Below.refl _ _)).2.1.cell 1
    have HP0 := hidden (PtS.new w7 (.slice a2 m c2))
    obtain ⟨W8, hW8⟩ : ∃ q, w7.alloc (.cells #[.slice none 0 0, .slice a2 m c2] 26) = q := ⟨_, rfl⟩
    rw [hW8] at HP0
    have k0 : W8.cell? ⟨kb, 0, none⟩ = some (.slice ca nn cc) := (HX.out W8 HP0.out.below).2.2.2.1.cell 0
    have HW8 := hidden hW8
    clear hb7 hMM HA6 HR6 HB6 HV6 HK6 H1 H2 hW8
    go_upto_region 6 with fail
    rw [HW8.out]
    clear HW8 x1
    go_wp2_with fail
    clear k0
    obtain ⟨L, hL⟩ : ∃ q, keptSp kp l = q := ⟨_, rfl⟩
    have hLn : L.length = nn := by rw [← hL, keptSp_length kp l (by rw [HKL.out]; exact HN.out), ← HNNE.out, ← HKQ.out, numsM_length]
    have HLE := hidden hL
    have HLN := hidden hLn
    have HLM : Hid (∀ y ∈ L, y ∈ l) := fun y hy => by rw [← hL] at hy; exact keptSp_mem kp l y hy
    have HNK : Hid (∀ (j : Nat) (x : Int), KN[j]? = some x → ∃ y, l[x.toNat]? = some y ∧ L[j]? = some y ∧ 0 ≤ x ∧ x.toNat < n) := fun j x hx => by
      rw [← HKQ.out] at hx
      obtain ⟨y, g1, g2, g3, g4⟩ := nums_kept kp 0 l l (by rw [HKL.out]; exact HN.out) (fun i y h => by rw [Nat.zero_add]; exact h) j x hx
      rw [hL] at g2
      rw [Nat.zero_add, ← HN.out] at g4
      exact ⟨y, g1, g2, g3, g4⟩
    have HPT : Hid (PtS w7 W8 (.slice none 0 0) (.slice a2 m c2) (L.take 0)) := HP0.out
    clear hL hLn HP0
    go_loopw [29] (fun i wr => ∃ (j : Nat) (va : Option Addr) (vc : Nat), i = .int .i64 j ∧ j ≤ nn ∧ Hid (PtS w7 wr (.slice va j vc) (.slice a2 m c2) (L.take j))) (fun i _ => nn - (intOf i).toNat)
    case atStart => exact ⟨0, none, 0, rfl, Nat.zero_le _, HPT⟩
    case round =>
      obtain ⟨j, va, vc, rfl, hj, hpt⟩ := hrel
      clear HPT
      obtain ⟨_, hxa, _, hxk, hxv, hxs, _⟩ := HX.out wr hpt.out.below
      by_cases hlt : j < nn
      · have hilt : (j : Int) < (nn : Int) := by omega
        obtain ⟨x, hx⟩ : ∃ x, KN[j]? = some x := ⟨_, List.getElem?_eq_getElem (by rw [HNNE.out]; exact hlt)⟩
        obtain ⟨y, hy1, hy2, hy3, hy4⟩ := HNK.out j x hx
        obtain ⟨k, rfl⟩ := Int.eq_ofNat_of_zero_le hy3
        rw [Int.toNat_natCast] at hy1 hy4
        have hki : (k : Int) < (n : Int) := by omega
        obtain ⟨cb, co, rfl, _, hcc⟩ := hxv (by rw [List.length_map, HNNE.out]; omega)
        have hcx := hcc j _ (by rw [List.getElem?_map, hx]; rfl)
        have hkl : k < l.length := (List.getElem?_eq_some_iff.1 hy1).1
        have hyk : l[k] = y := (List.getElem?_eq_some_iff.1 hy1).2
        obtain ⟨b, off, rfl, hbB, -⟩ := hxs.at_ hkl
        have HSC : Hid (∀ W, Below w7.heap.size w7 W → W.cell? ⟨w.heap.size, 0, none⟩ = some (.slice (some ⟨b, off, none⟩) n c1) ∧ SecAt W b (off + k * 6) y) := fun W hW => by
          obtain ⟨_, g1, _, _, _, g2, _⟩ := HX.out W hW
          obtain ⟨b', o', e', _, g3⟩ := g2.at_ hkl
          injection e' with e'; injection e' with e1 e2; subst e1; subst e2
          rw [hyk] at g3
          exact ⟨g1.cell 0, g3⟩
        have HTK : Hid (L.take (j + 1) = L.take j ++ [y]) := take_next hy2
        obtain ⟨LT, hLT⟩ : ∃ q, L.take j = q := ⟨_, rfl⟩
        have hlt2 : LT.length = j := by rw [← hLT, List.length_take, HLN.out]; omega
        have HLT := hidden hlt2
        rw [hLT] at HTK hpt
        have HJ0 : Hid (JP w7 (.slice va j vc) (.slice a2 m c2) LT y j 0 wr.drew fun _ => undef) := hpt.out.only ⟨rfl, rfl, rfl, Nat.le_refl _, fun _ _ => rfl⟩
        clear hxa hxk hxv hxs hx hy1 hy2 hy3 hy4 hcc hkl hyk hbB hLT hlt2 hpt hlt
        obtain ⟨⟨nm, kd, al, bs, sz, fs⟩, ya1, yc1, ya2, yc2⟩ := y
        obtain ⟨nb, hnb⟩ : ∃ q, bs.length = q := ⟨_, rfl⟩
        obtain ⟨nf, hnf⟩ : ∃ q, fs.length = q := ⟨_, rfl⟩
        have HSC2 : Hid (∀ W, Below w7.heap.size w7 W → W.cell? ⟨w.heap.size, 0, none⟩ = some (.slice (some ⟨b, off, none⟩) n c1) ∧ W.cell? ⟨b, off + k * 6, none⟩ = some (.string nm) ∧ W.cell? ⟨b, off + k * 6 + 1, none⟩ = some (.int .i64 kd) ∧ W.cell? ⟨b, off + k * 6 + 2, none⟩ = some (.int .i64 al) ∧ W.cell? ⟨b, off + k * 6 + 3, none⟩ = some (.slice ya1 nb yc1) ∧ W.cell? ⟨b, off + k * 6 + 4, none⟩ = some (.int .i64 sz) ∧ W.cell? ⟨b, off + k * 6 + 5, none⟩ = some (.slice ya2 nf yc2)) := fun W hW => by
          obtain ⟨g0, g1, g2, g3, g4, g5, g6⟩ := HSC.out W hW
          dsimp only at g1 g2 g3 g4 g5 g6
          rw [hnb] at g4
          rw [hnf] at g6
          exact ⟨g0, g1, g2, g3, g4, g5, g6⟩
        have HCE : Hid (secCells ⟨⟨nm, kd, al, bs, sz, fs⟩, ya1, yc1, ya2, yc2⟩ = [.string nm, .int .i64 kd, .int .i64 al, .slice ya1 nb yc1, .int .i64 sz, .slice ya2 nf yc2]) := by
          show _ = _
          unfold secCells
          dsimp only
          rw [hnb, hnf]
        clear HSC hnb hnf
        go_upto_region 9 with fail
        refine wp_region_chain (m := 3) (js := [.quiet (.pointer (some ⟨w7.heap.size, 0, none⟩)) 3, .quiet (.slice va j vc) 1, .quiet (.pointer (some ⟨w.heap.size, 0, none⟩)) 3, .quiet (.slice (some ⟨b, off, none⟩) n c1) 3, .quiet (.int .i64 k) 3, .quiet (.pointer (some ⟨b, off + k * 6, none⟩)) 3, .quiet (.agg #[.string nm, .int .i64 kd, .int .i64 al, .slice ya1 nb yc1, .int .i64 sz, .slice ya2 nf yc2]) 3, .chain 0, .chain 1, .quiet (.pointer (some ⟨w7.heap.size, 0, none⟩)) 3, .chain 2]) (by kernel_rfl) (JP w7 (.slice va j vc) (.slice a2 m c2) LT ⟨⟨nm, kd, al, bs, sz, fs⟩, ya1, yc1, ya2, yc2⟩ j) (by kernel_rfl) (by kernel_rfl) ⟨_, HJ0.out⟩ (fun vals => ?_) ?_
        · show SeqW _ _ _ _ _ _ _
          refine ⟨fun kk hkk W hW => ?_, ?_⟩
          · unfold Oper.wp
            simp [go_sem]
            try exact ⟨_, rfl, rfl⟩
          simp only [Act.put, List.setIfInBounds_toArray, List.set_cons_succ, List.set_cons_zero]
          refine ⟨fun kk hkk W hW => ?_, ?_⟩
          · have q : W.cell? ⟨w7.heap.size, 0, none⟩ = some (.slice va j vc) := (JP.obj hW hkk).cell 0
            unfold Oper.wp
            simp [go_sem, q]
            try exact ⟨_, rfl, rfl⟩
          simp only [Act.put, List.setIfInBounds_toArray, List.set_cons_succ, List.set_cons_zero]
          refine ⟨fun kk hkk W hW => ?_, ?_⟩
          · unfold Oper.wp
            simp [go_sem]
            try exact ⟨_, rfl, rfl⟩
          simp only [Act.put, List.setIfInBounds_toArray, List.set_cons_succ, List.set_cons_zero]
          refine ⟨fun kk hkk W hW => ?_, ?_⟩
          · obtain ⟨q0, _⟩ := HSC2.out W (JP.below hW)
            unfold Oper.wp
            simp [go_sem, q0]
            try exact ⟨_, rfl, rfl⟩
          simp only [Act.put, List.setIfInBounds_toArray, List.set_cons_succ, List.set_cons_zero]
          refine ⟨fun kk hkk W hW => ?_, ?_⟩
          · unfold Oper.wp
            simp [go_sem]
            try exact ⟨_, rfl, rfl⟩
          simp only [Act.put, List.setIfInBounds_toArray, List.set_cons_succ, List.set_cons_zero]
          refine ⟨fun kk hkk W hW => ?_, ?_⟩
          · have hki' : (k : Int) < (n : Int) := hki
            unfold Oper.wp
            simp [go_sem, hki']
            try exact ⟨_, rfl, rfl⟩
          simp only [Act.put, List.setIfInBounds_toArray, List.set_cons_succ, List.set_cons_zero]
          refine ⟨fun kk hkk W hW => ?_, ?_⟩
          · obtain ⟨_, q0, q1, q2, q3, q4, q5⟩ := HSC2.out W (JP.below hW)
            unfold Oper.wp
            simp [go_sem, q0, q1, q2, q3, q4, q5]
            try exact ⟨_, rfl, rfl⟩
          simp only [Act.put, List.setIfInBounds_toArray, List.set_cons_succ, List.set_cons_zero]
          refine ⟨fun W hW => ?_, ?_⟩
          · have hN : JP w7 (.slice va j vc) (.slice a2 m c2) LT ⟨⟨nm, kd, al, bs, sz, fs⟩, ya1, yc1, ya2, yc2⟩ j 1 (W.alloc (.cells #[.string nm, .int .i64 kd, .int .i64 al, .slice ya1 nb yc1, .int .i64 sz, .slice ya2 nf yc2] 64)) (upd vals 0 (.slice (some ⟨W.heap.size, 0, none⟩) 1 1)) := ⟨PtS.alloc hW _, W.heap.size, rfl, by rw [HCE.out]; exact Has.new _ _ _⟩
            unfold Oper.wp
            simp [go_sem]
            first | exact hN | exact ⟨_, rfl, hN⟩
          simp only [Act.put, List.setIfInBounds_toArray, List.set_cons_succ, List.set_cons_zero]
          refine ⟨fun W hW => ?_, ?_⟩
          · obtain ⟨hW1, hb, hv, hh⟩ := hW
            refine wp_append_row _ _ 23 64 rfl _ 6 88 Try.info_section Try.underlying23 rfl (by decide) (by decide) w7.heap.size (.slice va j vc) j (flatS LT) rfl (by have := hW1.row; rwa [HLT.out] at this) (some ⟨hb, 0, none⟩) 1 1 (secCells ⟨⟨nm, kd, al, bs, sz, fs⟩, ya1, yc1, ya2, yc2⟩) hv rfl (fun _ => ⟨hb, 0, rfl, fun i u hi => by rw [Nat.zero_add, hh.cell, List.getElem?_toArray]; exact hi⟩) ?_ (by omega) hW1.below.size ?_
            · intro u hu
              unfold secCells at hu
              simp only [List.mem_cons, List.not_mem_nil, or_false] at hu
              rcases hu with rfl | rfl | rfl | rfl | rfl | rfl <;> rfl
            · intro v' w' h2 h3
              obtain ⟨b2, d2, rfl⟩ := own_shape h2
              obtain ⟨q0, q1, q2⟩ := hW1.app (y := ⟨⟨nm, kd, al, bs, sz, fs⟩, ya1, yc1, ya2, yc2⟩) h3 (by rw [HLT.out]; exact h2)
              exact ⟨_, rfl, (⟨b2, d2, rfl, q0, q1, q2⟩ : JP w7 (.slice va j vc) (.slice a2 m c2) LT ⟨⟨nm, kd, al, bs, sz, fs⟩, ya1, yc1, ya2, yc2⟩ j 2 w' (upd vals 1 (.slice b2 (j + 1) d2)))⟩
          simp only [Act.put, List.setIfInBounds_toArray, List.set_cons_succ, List.set_cons_zero]
          refine ⟨fun kk hkk W hW => ?_, ?_⟩
          · unfold Oper.wp
            simp [go_sem]
            try exact ⟨_, rfl, rfl⟩
          simp only [Act.put, List.setIfInBounds_toArray, List.set_cons_succ, List.set_cons_zero]
          refine ⟨fun W hW => ?_, trivial⟩
          obtain ⟨b2, d2, hv2, _, q1, q2⟩ := hW
          rw [hv2]
          have ck : W.cell? ⟨w7.heap.size, 0, none⟩ = some (.slice va j vc) := q1.cell 0
          have fk : W.frozen? ⟨w7.heap.size, 0, none⟩ = false := q1.free 0
          have hN : ∀ u, JP w7 (.slice va j vc) (.slice a2 m c2) LT ⟨⟨nm, kd, al, bs, sz, fs⟩, ya1, yc1, ya2, yc2⟩ j 3 (W.setCell ⟨w7.heap.size, 0, none⟩ (.slice b2 (j + 1) d2)) (upd vals 2 u) := fun u => ⟨b2, d2, q2⟩
          clear q1 q2
          unfold Oper.wp
          simp [go_sem, ck, fk]
          first | exact hN _ | exact ⟨undef, hN _⟩ | exact ⟨_, rfl, hN _⟩
        · intro W vals hJ
          obtain ⟨b3, d3, hK9⟩ := hJ
          simp only [putAll, List.map_cons, List.map_nil, Job.val, Act.put, List.setIfInBounds_toArray, List.set_cons_succ, List.set_cons_zero]
          have HK9 : Hid (PtS w7 W (.slice b3 (j + 1) d3) (.slice a2 m c2) (L.take (j + 1))) := by rw [HTK.out]; exact hK9
          clear hK9 HJ0 HSC2 HCE HTK HLT hcx
          go_wp2_with fail
          go_roundw
          case rel => exact ⟨j + 1, b3, d3, by go_num, by omega, HK9⟩
          case measure => simp [intOf]; omega
      · have hilt : ¬ (j : Int) < (nn : Int) := by omega
        have hjn : j = nn := by omega
        have HPF : Hid (PtS w7 wr (.slice va nn vc) (.slice a2 m c2) L) := by
          have := hpt.out
          rw [hjn, List.take_of_length_le (by rw [HLN.out]; exact Nat.le_refl _)] at this
          exact this
        have q0 : wr.cell? ⟨w7.heap.size, 0, none⟩ = some (.slice va nn vc) := HPF.out.obj.cell 0
        have q1 : wr.cell? ⟨w7.heap.size, 1, none⟩ = some (.slice a2 m c2) := HPF.out.obj.cell 1
        have hrow := HPF.out.row
        rw [HLN.out] at hrow
        have HSL : Hid (Sects wr wr.heap.size va L) := sects_of_row hrow HLN.out.symm (fun y hy => hxs.bytes y (HLM.out y hy)) (fun y hy => hxs.fixs y (HLM.out y hy)) HPF.out.below.size
        have HSU := hidden (symbolsUsed_any wr wr.heap.size va a2 vc c2 nn m L HLN.out.symm HSL.out (Nat.le_refl _) (by omega) hm12 (fun y hy => (HSH.out y (HLM.out y hy)).2.2) (fun y hy => HTO.out y (HLM.out y hy)))
        clear hlt hjn hpt hxa hxk hxv hxs hrow hj
        go_wp2_with fail
        refine HSU.out.mono ?_
        clear HSU q0 q1
        rintro e w9 ⟨⟨U, rfl, hU⟩, hb9⟩
        have hP9 := HPF.out.only hb9
        have HP9 := hidden hP9
        have hLs : L.map Sp.s = keptS kp (l.map Sp.s) := by rw [← HLE.out]; exact keptSp_map kp l
        have hand := and_loose HMM.out (by rw [← hLs]; exact hU) (ss := l.map Sp.s) (fun s hs f hf => by
          rw [← hLs] at hs
          obtain ⟨y, hy, rfl⟩ := List.mem_map.1 hs
          have := HTO.out y (HLM.out y hy) f hf
          rwa [HM.out] at this)
        have hbo : bits .and .u16 (U : Int) (MM : Int) = ((U &&& MM : Nat) : Int) := u16_and_nat U MM hU.1 HMM.out.1
        by_cases hz : U &&& MM = 0
        · have hlo := hand.1 hz
          rw [hz] at hbo
          have hAe := keepR_yes HAA.out HOK.out hlo
          have HAE := hidden hAe
          have HS9 := hidden ((HSL.out.below hb9).more hb9.size)
          have HY9 := hidden (HX.out w9 hP9.below)
          have HKG : Hid (∀ i b, (ms.map (inKept kp))[i]? = some b → MM.testBit i = !b) := fun i b hb => by
            rw [HMM.out.2 i]
            rw [List.getElem?_map] at hb
            obtain ⟨y, hy, rfl⟩ := Option.map_eq_some_iff.1 hb
            rw [hy]
            exact goesM_kept kp y
          have HWS := hidden (withoutSymbols_any w9 w9.heap.size va a2 vc c2 nn m L ms HLN.out.symm HM.out HS9.out (HY9.out.2.2.2.2.2.2.more hP9.below.size) (Nat.le_refl _) (by omega) hm12 (fun y hy => HSH.out y (HLM.out y hy)) (ms.map (inKept kp)) MM HMM.out.1 HKG.out (by rw [List.length_map]; exact HM.out.symm) (fun y hy => HTO.out y (HLM.out y hy)))
          have q0 : w9.cell? ⟨w7.heap.size, 0, none⟩ = some (.slice va nn vc) := hP9.obj.cell 0
          have q1 : w9.cell? ⟨w7.heap.size, 1, none⟩ = some (.slice a2 m c2) := hP9.obj.cell 1
          have HLS := hidden hLs
          have HB79 := hidden hP9.below
          clear hand hz hlo hAe hb9 hP9 hLs hU HPF HSL HMM HS9 HKG HP9 HSH HTO
          go_wp2_with fail
          refine HWS.out.mono ?_
          clear HWS q0 q1 hbo
          rintro e w10 ⟨LL, b1, b2, d1, d2, rfl, hLL, hown, hb10⟩
          dsimp only at hLL hown
          obtain ⟨MS, hMS⟩ : ∃ q, keptL (ms.map (inKept kp)) ms = q := ⟨_, rfl⟩
          rw [hMS] at hown
          dsimp only
          rw [hMS]
          have hA1 : A.1 = LL.map Sp.s := by
            have e := congrArg Prod.fst HAE.out.1
            rw [e, hLL, HLS.out]
            unfold keepO
            exact keptS_map _ _ _
          have hA2 : A.2 = MS.map (reLoc (keptN kp)) := by
            have e := congrArg Prod.snd HAE.out.1
            rw [e, ← hMS]; rfl
          have hLN : LL.length = N := by rw [← HNE.out, hA1, List.length_map]
          have hMN : MS.length = M := by rw [← HME.out, hA2, List.length_map]
          rw [hLN, hMN] at hown
          rw [hLN, hMN]
          have hM12 : M ≤ 12 := by
            have h1 := keptL_le (ms.map (inKept kp)) ms (List.length_map _)
            rw [hMS, hMN] at h1
            have := HM.out
            omega
          have HIK : Hid (∀ y ∈ MS, 0 ≤ y.loc → kp[y.loc.toNat]? = some true) := fun y hy h0 => by
            rw [← hMS] at hy
            have h3 := keptL_stay (inKept kp) ms y hy
            unfold inKept at h3
            rw [decide_eq_false (by omega), Bool.false_or, List.getD_eq_getElem?_getD] at h3
            cases hq : kp[y.loc.toNat]? with
            | none => rw [hq] at h3; cases h3
            | some b => rw [hq] at h3; exact congrArg some h3
          have hb11 : Below w10.heap.size w10 (w10.alloc (.cells #[.slice b1 N d1, .slice b2 M d2] 26)) := (Below.refl _ _).alloc (Nat.le_refl _) _
          have hOb : Ob (w10.alloc (.cells #[.slice b1 N d1, .slice b2 M d2] 26)) w10.heap.size w9.heap.size (.slice b1 N d1) (.slice b2 M d2) LL MS := ⟨Has.new _ _ _, hown.secs.kept (grown_only hb11), by rw [hMN]; exact hown.syms.kept (grown_only hb11) (Classical.em _)⟩
          have hb9 : Below w9.heap.size w9 (w10.alloc (.cells #[.slice b1 N d1, .slice b2 M d2] 26)) := hb10.trans (hb11.mono hb10.size)
          obtain ⟨W11, hW11⟩ : ∃ q, w10.alloc (.cells #[.slice b1 N d1, .slice b2 M d2] 26) = q := ⟨_, rfl⟩
          obtain ⟨qb, hqb⟩ : ∃ q, w10.heap.size = q := ⟨_, rfl⟩
          rw [hW11, hqb] at hOb
          rw [hW11] at hb9
          have HOB0 : Hid (Ob W11 qb w9.heap.size (.slice b1 N d1) (.slice b2 M d2) LL (locN (keptN kp) 0 MS)) := by rw [locN_start]; exact hOb
          have HB90 := hidden hb9
          have q1 : W11.cell? ⟨qb, 1, none⟩ = some (.slice b2 M d2) := hOb.obj.cell 1
          have HW11 := hidden hW11
          have HQB := hidden hqb
          have HA1E := hidden hA1
          have HA2E := hidden hA2
          have HLNE := hidden hLN
          have HMNE := hidden hMN
          clear hLL hown hb10 hb11 hOb hb9 hW11 hqb hA1 hA2 hLN hMN hMS HLS
          go_upto_region 14 with fail
          rw [HW11.out, HQB.out]
          clear HW11 HQB
          go_wp2_with fail
          clear q1
          go_loopw [56] (fun i wr => ∃ j : Nat, i = .int .i64 j ∧ j ≤ M ∧ Hid (Ob wr qb w9.heap.size (.slice b1 N d1) (.slice b2 M d2) LL (locN (keptN kp) j MS)) ∧ Hid (Below w9.heap.size w9 wr)) (fun i _ => M - (intOf i).toNat)
          case atStart => exact ⟨0, rfl, Nat.zero_le _, HOB0, HB90⟩
          case round =>
            obtain ⟨j, rfl, hj, hob, hb9⟩ := hrel
            clear HOB0 HB90
            by_cases hlt : j < M
            · have hilt : (j : Int) < (M : Int) := by omega
              obtain ⟨y, hy⟩ : ∃ y, MS[j]? = some y := ⟨_, List.getElem?_eq_getElem (by rw [HMNE.out]; exact hlt)⟩
              have HIK2 := hidden (HIK.out y (List.mem_of_getElem? hy))
              obtain ⟨g, gc, hvm, hgl, _, p0, p1, p2, p3, _⟩ := hob.out.setLoc (locN_at (t := keptN kp) hy)
              rw [locN_length, HMNE.out] at hvm
              injection hvm with hb2 hz1 hz2
              subst hb2
              clear hz1 hz2
              have HY := hidden hy
              have hS : Has (wr.alloc (.cells #[.string y.name, .int .i64 y.bind, .int .i64 y.loc, .int .i64 y.value] 59)) wr.heap.size 59 #[.string y.name, .int .i64 y.bind, .int .i64 y.loc, .int .i64 y.value] := Has.new _ _ _
              have hba : Below wr.heap.size wr (wr.alloc (.cells #[.string y.name, .int .i64 y.bind, .int .i64 y.loc, .int .i64 y.value] 59)) := (Below.refl _ _).alloc (Nat.le_refl _) _
              obtain ⟨W12, hW12⟩ : ∃ q, wr.alloc (.cells #[.string y.name, .int .i64 y.bind, .int .i64 y.loc, .int .i64 y.value] 59) = q := ⟨_, rfl⟩
              obtain ⟨bx, hbx⟩ : ∃ q, wr.heap.size = q := ⟨_, rfl⟩
              rw [hW12] at hba
              rw [hW12, hbx] at hS
              have s0 : W12.cell? ⟨bx, 0, none⟩ = some (.string y.name) := hS.cell 0
              have s1 : W12.cell? ⟨bx, 1, none⟩ = some (.int .i64 y.bind) := hS.cell 1
              have s2 : W12.cell? ⟨bx, 2, none⟩ = some (.int .i64 y.loc) := hS.cell 2
              have s3 : W12.cell? ⟨bx, 3, none⟩ = some (.int .i64 y.value) := hS.cell 3
              have HIN := hidden (inSection_any W12 y)
              have HOB := hidden (hob.out.only hba)
              have HB9 := hidden (hb9.out.trans (hba.mono hb9.out.size))
              have HS := hidden hS
              have HW12 := hidden hW12
              have HBX := hidden hbx
              clear hy hS hba hW12 hbx hob hb9 hgl
              go_upto_region 17 with fail
              rw [HW12.out, HBX.out]
              clear p0 p1 p2 p3 HW12 HBX
              by_cases h0 : 0 ≤ y.loc
              · have hd0 : decide (0 ≤ y.loc) = true := decide_eq_true h0
                rw [hd0] at HIN
                obtain ⟨p, hp⟩ := Int.eq_ofNat_of_zero_le h0
                have hkp := HIK2.out h0
                rw [hp, Int.toNat_natCast] at hkp
                have HIXE := hidden (idx_kept hkp)
                have HLY := hidden (locN_yes (t := keptN kp) HY.out h0)
                rw [hp] at HLY
                have HP := hidden hp
                clear HIK2 h0 hd0 hkp hp
                go_wp2_with fail
                refine HIN.out.mono ?_
                clear HIN s0 s1 s2 s3
                rintro e w13 ⟨rfl, hb13⟩
                have hob := HOB.out.only hb13
                have hb9 := HB9.out.trans (hb13.mono HB9.out.size)
                have hs13 := HS.out.below hb13 HS.out.lt
                obtain ⟨hxw, _, _, hxk, hxv, _, _⟩ := HX.out w13 (HB79.out.trans (hb9.mono HB79.out.size))
                have HIX : Hid (∀ z, Calls Try.prog 31 #[.slice ca nn cc, .int .i64 (p : Int)] (w13.drewN z) fun e w' => e = .returned (.int .i64 (keptN kp (p : Int))) ∧ w13.drewN z = w') := fun z => by
                  have := indexI_any (w13.drewN z) (w13.drewN z).heap.size KN ca nn cc (hxv.drewN z) HNNE.out (by omega) (p : Int)
                  rwa [← HKQ.out, HIXE.out] at this
                obtain ⟨vk, hvk⟩ : ∃ q, keptN kp (p : Int) = q := ⟨_, rfl⟩
                rw [hvk] at HIX HLY
                obtain ⟨g', gc', hvm, hgl, ⟨cs, hgs⟩, _, _, p2, _, _⟩ := hob.setLoc (locN_at (t := keptN kp) HY.out)
                rw [locN_length, HMNE.out] at hvm
                injection hvm with hb2 hz1 hz2
                injection hb2 with hb2
                injection hb2 with hb2
                subst hb2
                clear hz1 hz2
                rw [HP.out] at p2
                have key : ∀ z, Hid (Ob ((w13.drewN z).setCell ⟨g, j * 4 + 2, none⟩ (.int .i64 vk)) qb w9.heap.size (.slice b1 N d1) (.slice (some ⟨g, 0, none⟩) M d2) LL (locN (keptN kp) (j + 1) MS)) ∧ (w13.drewN z).grownBy ((w13.drewN z).setCell ⟨g, j * 4 + 2, none⟩ (.int .i64 vk)) (some g) := fun z => by
                  have ho := hob.only (below_drewN (Below.refl _ _) z)
                  obtain ⟨g2, _, hvm2, _, _, _, _, _, _, hset⟩ := ho.setLoc (locN_at (t := keptN kp) HY.out)
                  rw [locN_length, HMNE.out] at hvm2
                  injection hvm2 with hb2 hz1 hz2
                  injection hb2 with hb2
                  injection hb2 with hb2
                  subst hb2
                  rw [HLY.out]
                  exact hset vk
                have HST : Hid (∀ z, Hid (Ob ((w13.drewN z).setCell ⟨g, j * 4 + 2, none⟩ (.int .i64 vk)) qb w9.heap.size (.slice b1 N d1) (.slice (some ⟨g, 0, none⟩) M d2) LL (locN (keptN kp) (j + 1) MS))) := fun z => (key z).1
                have HSB : Hid (∀ z, Hid (Below w9.heap.size w9 ((w13.drewN z).setCell ⟨g, j * 4 + 2, none⟩ (.int .i64 vk)))) := fun z => (below_drewN hb9 z).grown (key z).2 hb9.size (by intro q hq; injection hq with hq; omega)
                have t1 : w13.cell? ⟨qb, 1, none⟩ = some (.slice (some ⟨g, 0, none⟩) M d2) := hob.obj.cell 1
                have t2 : w13.cell? ⟨kb, 0, none⟩ = some (.slice ca nn cc) := hxk.cell 0
                have t3 : w13.cell? ⟨bx, 2, none⟩ = some (.int .i64 (p : Int)) := by rw [← HP.out]; exact hs13.cell 2
                have t4 : w13.cell? ⟨g, j * 4 + 2, none⟩ = some (.int .i64 (p : Int)) := p2
                have t5 : w13.frozen? ⟨g, j * 4 + 2, none⟩ = false := hgs.free _
                clear hob hb9 hs13 hxw hxk hxv hgs p2 key hb13 HOB HB9 HS HLY HIXE hvk hgl HP
                go_upto_region 18 with fail
                refine wp_region_chain (m := 1) (js := [.quiet (.pointer (some ⟨qb, 1, none⟩)) 1, .quiet (.slice (some ⟨g, 0, none⟩) M d2) 0, .quiet (.int .i64 j) 1, .quiet (.slice ca nn cc) 0, .quiet (.pointer (some ⟨bx, 2, none⟩)) 1, .quiet (.int .i64 (p : Int)) 0, .quiet (.int .i64 vk) 0, .quiet (.pointer (some ⟨g, j * 4, none⟩)) 1, .quiet (.pointer (some ⟨g, j * 4 + 2, none⟩)) 1, .chain 0]) (by kernel_rfl) (JL w13 w9 qb (.slice b1 N d1) (.slice (some ⟨g, 0, none⟩) M d2) LL (locN (keptN kp) (j + 1) MS)) (by kernel_rfl) (by kernel_rfl) ⟨fun _ => undef, (⟨1, rfl⟩ : ∃ z, w13.drew = w13.drewN z)⟩ (fun vals => ?_) ?_
                · show SeqW _ _ _ _ _ _ _
                  refine ⟨fun kk hkk W hW => ?_, ?_⟩
                  · unfold Oper.wp
                    simp [go_sem]
                    try exact ⟨_, rfl, rfl⟩
                  simp only [Act.put, List.setIfInBounds_toArray, List.set_cons_succ, List.set_cons_zero]
                  refine ⟨fun kk hkk W hW => ?_, ?_⟩
                  · obtain ⟨z, rfl⟩ := JL.at0 hW (by omega)
                    unfold Oper.wp
                    simp [go_sem, t1]
                    try exact ⟨_, rfl, rfl⟩
                  simp only [Act.put, List.setIfInBounds_toArray, List.set_cons_succ, List.set_cons_zero]
                  refine ⟨fun kk hkk W hW => ?_, ?_⟩
                  · unfold Oper.wp
                    simp [go_sem]
                    try exact ⟨_, rfl, rfl⟩
                  simp only [Act.put, List.setIfInBounds_toArray, List.set_cons_succ, List.set_cons_zero]
                  refine ⟨fun kk hkk W hW => ?_, ?_⟩
                  · obtain ⟨z, rfl⟩ := JL.at0 hW (by omega)
                    unfold Oper.wp
                    simp [go_sem, t2]
                    try exact ⟨_, rfl, rfl⟩
                  simp only [Act.put, List.setIfInBounds_toArray, List.set_cons_succ, List.set_cons_zero]
                  refine ⟨fun kk hkk W hW => ?_, ?_⟩
                  · unfold Oper.wp
                    simp [go_sem]
                    try exact ⟨_, rfl, rfl⟩
                  simp only [Act.put, List.setIfInBounds_toArray, List.set_cons_succ, List.set_cons_zero]
                  refine ⟨fun kk hkk W hW => ?_, ?_⟩
                  · obtain ⟨z, rfl⟩ := JL.at0 hW (by omega)
                    unfold Oper.wp
                    simp [go_sem, t3]
                    try exact ⟨_, rfl, rfl⟩
                  simp only [Act.put, List.setIfInBounds_toArray, List.set_cons_succ, List.set_cons_zero]
                  refine ⟨fun kk hkk W hW => ?_, ?_⟩
                  · obtain ⟨z, rfl⟩ := JL.at0 hW (by omega)
                    unfold Oper.wp
                    simp [go_sem]
                    refine (HIX.out z).mono ?_
                    rintro e _ ⟨rfl, rfl⟩
                    first | exact ⟨_, rfl, rfl, rfl⟩ | exact ⟨_, rfl⟩ | exact ⟨rfl, rfl⟩ | exact rfl
                  simp only [Act.put, List.setIfInBounds_toArray, List.set_cons_succ, List.set_cons_zero]
                  refine ⟨fun kk hkk W hW => ?_, ?_⟩
                  · have q := hilt
                    unfold Oper.wp
                    simp [go_sem, q]
                    try exact ⟨_, rfl, rfl⟩
                  simp only [Act.put, List.setIfInBounds_toArray, List.set_cons_succ, List.set_cons_zero]
                  refine ⟨fun kk hkk W hW => ?_, ?_⟩
                  · unfold Oper.wp
                    simp [go_sem]
                    try exact ⟨_, rfl, rfl⟩
                  simp only [Act.put, List.setIfInBounds_toArray, List.set_cons_succ, List.set_cons_zero]
                  refine ⟨fun W hW => ?_, trivial⟩
                  obtain ⟨z, rfl⟩ := JL.at0 hW rfl
                  have hN : ∀ u, (JL w13 w9 qb (.slice b1 N d1) (.slice (some ⟨g, 0, none⟩) M d2) LL (locN (keptN kp) (j + 1) MS)) 1 ((w13.drewN z).setCell ⟨g, j * 4 + 2, none⟩ (.int .i64 vk)) (upd vals 0 u) := fun u => ⟨HST.out z, HSB.out z⟩
                  unfold Oper.wp
                  simp [go_sem, t4, t5]
                  first | exact hN _ | exact ⟨undef, hN _⟩ | exact ⟨_, rfl, hN _⟩
                · intro W vals hJ
                  obtain ⟨HO2, HB2⟩ := hJ
                  simp only [putAll, List.map_cons, List.map_nil, Job.val, Act.put, List.setIfInBounds_toArray, List.set_cons_succ, List.set_cons_zero]
                  clear t1 t2 t3 t4 t5 HIX HST HSB
                  go_wp2_with fail
                  go_roundw
                  case rel => exact ⟨j + 1, by go_num, by omega, HO2, HB2⟩
                  case measure => simp [intOf]; omega
              · have hd0 : decide (0 ≤ y.loc) = false := decide_eq_false h0
                rw [hd0] at HIN
                have HLY := hidden (locN_no (t := keptN kp) HY.out h0)
                clear HIK2 h0 hd0
                go_wp2_with fail
                refine HIN.out.mono ?_
                clear HIN s0 s1 s2 s3
                rintro e w13 ⟨rfl, hb13⟩
                have HO2 : Hid (Ob w13 qb w9.heap.size (.slice b1 N d1) (.slice (some ⟨g, 0, none⟩) M d2) LL (locN (keptN kp) (j + 1) MS)) := by rw [HLY.out]; exact HOB.out.only hb13
                have HB2 := hidden (HB9.out.trans (hb13.mono HB9.out.size))
                clear hb13 HOB HB9 HS HLY
                go_wp2_with fail
                go_roundw
                case rel => exact ⟨j + 1, by go_num, by omega, HO2, HB2⟩
                case measure => simp [intOf]; omega
            · have hilt : ¬ (j : Int) < (M : Int) := by omega
              have hjm : j = MS.length := by rw [HMNE.out]; omega
              have hfin := hob.out
              rw [hjm, locN_all, ← HA2E.out] at hfin
              obtain ⟨hxw, _, hxr, _, _, _, _⟩ := HX.out wr (HB79.out.trans (hb9.out.mono HB79.out.size))
              have hOW : OwnR wr w9.heap.size b1 b2 N M d1 d2 LL A.2 := ⟨hb9.out.size, HLNE.out, HME.out, hfin.secs, by have := hfin.syms; rwa [HME.out] at this⟩
              have hrl : w.heap.size + 1 < w9.heap.size := Nat.lt_of_lt_of_le HRL.out HB79.out.size
              have HAB := hidden (ansB_store hxr hrl hOW HA1E.out.symm hxw HAE.out.2)
              have o0 : wr.cell? ⟨qb, 0, none⟩ = some (.slice b1 N d1) := hfin.obj.cell 0
              have o1 : wr.cell? ⟨qb, 1, none⟩ = some (.slice b2 M d2) := hfin.obj.cell 1
              have r0 : wr.cell? ⟨w.heap.size + 1, 0, none⟩ = some (.slice none 0 0) := hxr.cell 0
              have r1 : wr.cell? ⟨w.heap.size + 1, 1, none⟩ = some (.slice none 0 0) := hxr.cell 1
              have u0 : wr.frozen? ⟨w.heap.size + 1, 0, none⟩ = false := hxr.free 0
              have u1 : wr.frozen? ⟨w.heap.size + 1, 1, none⟩ = false := hxr.free 1
              clear hlt hjm hob hb9 hfin hxw hxr hOW hrl hj
              go_wp2_with fail
              refine bodyPost_ret (results_cell_rowT rfl _ _ (w.heap.size + 1) 26 #[.slice b1 N d1, .slice b2 M d2] (0, 0) _ rfl HAB.out.1 Try.underlying26 rfl (by kernel_rfl)) rfl ?_
              exact HAB.out.2
        · have hlo : looseS (ms.map (inKept kp)) kp (l.map Sp.s) = true := by
            cases hq : looseS (ms.map (inKept kp)) kp (l.map Sp.s) with
            | true => rfl
            | false => exact absurd (hand.2 hq) hz
          obtain ⟨z, hze⟩ : ∃ q, U &&& MM = q := ⟨_, rfl⟩
          rw [hze] at hz hbo
          have hd1 : ((z : Int) == 0) = false := by simp [hz]
          have hd2 : ((z : Int) != 0) = true := by simp [hz]
          obtain ⟨hxw, _, hxr, _, _, _, _⟩ := HX.out w9 hP9.below
          have HAN : Hid (A = ([], []) ∧ okb = false) := keepR_no HAA.out (.inr hlo)
          have HAB := hidden (ansB_none hxr hxw HAN.out.1 HAN.out.2 HNE.out HME.out)
          have r0 : w9.cell? ⟨w.heap.size + 1, 0, none⟩ = some (.slice none 0 0) := hxr.cell 0
          have r1 : w9.cell? ⟨w.heap.size + 1, 1, none⟩ = some (.slice none 0 0) := hxr.cell 1
          have u0 : w9.frozen? ⟨w.heap.size + 1, 0, none⟩ = false := hxr.free 0
          have u1 : w9.frozen? ⟨w.heap.size + 1, 1, none⟩ = false := hxr.free 1
          clear hand hlo hze hz hxw hxr hb9 hP9 hLs hU HPF HSL HMM HP9 HX
          go_wp2_with fail
          refine bodyPost_ret (results_cell_rowT rfl _ _ (w.heap.size + 1) 26 #[.slice none 0 0, .slice none 0 0] (0, 0) _ rfl HAB.out.1 Try.underlying26 rfl (by kernel_rfl)) rfl ?_
          exact HAB.out.2

end Go.Proofs.Ytjpclpjhigongaa

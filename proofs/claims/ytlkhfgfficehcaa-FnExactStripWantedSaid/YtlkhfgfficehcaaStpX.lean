/-
  impl.stripSymbols, impl.StripLocals and impl.StripWanted.
-/
import Derived.Test.YtlkhfgfficehcaaStpW
import Derived.Test.YtlkhfgfficehcaaObI
namespace Go.Proofs.Ytlkhfgfficehcaa
open Go.RowKit

/-- An answer that is stored in its place. -/
theorem ans_store {w w6 : World} {lo : Nat} {A : List Sx × List Sm} {L6 : List Sp} {e1 e2 : Option Addr} {N6 M6 g1 g2 : Nat} (hr : Has w6 (w.heap.size + 1) 26 #[.slice none 0 0, .slice none 0 0]) (hlo : w.heap.size + 1 < lo) (hown : OwnR w6 lo e1 e2 N6 M6 g1 g2 L6 A.2) (hL : L6.map Sp.s = A.1) (hb : Below w.heap.size w w6) :
    Has ((w6.setCell ⟨w.heap.size + 1, 0, none⟩ (.slice e1 N6 g1)).setCell ⟨w.heap.size + 1, 1, none⟩ (.slice e2 M6 g2)) (w.heap.size + 1) 26 #[.slice e1 N6 g1, .slice e2 M6 g2] ∧
      AnsO w A (.returned (.agg #[.slice e1 N6 g1, .slice e2 M6 g2])) ((w6.setCell ⟨w.heap.size + 1, 0, none⟩ (.slice e1 N6 g1)).setCell ⟨w.heap.size + 1, 1, none⟩ (.slice e2 M6 g2)) := by
  have hg : w6.grownBy ((w6.setCell ⟨w.heap.size + 1, 0, none⟩ (.slice e1 N6 g1)).setCell ⟨w.heap.size + 1, 1, none⟩ (.slice e2 M6 g2)) (some (w.heap.size + 1)) := only_trans (only_put' 0 _) (only_put' 1 _)
  have h7 := hown.under hlo hg
  have hb7 := hb.grown hg hb.size (by intro q hq; injection hq with hq; omega)
  refine ⟨(hr.put 0 _).put 1 _, L6, e1, e2, g1, g2, by rw [hown.len, hown.lem], hL, ?_, hb7⟩
  rw [hown.len, hown.lem]
  exact ⟨hb7.size, h7.len, h7.lem, h7.secs.lower (by omega), row_lower h7.syms (by omega)⟩
/-- The symbols that go: those that may, and that no fixup uses. -/
theorem gone_bits {tq : Sm → Bool} {ss : List Sx} {ms : List Sm} {M N : Nat} (hM : InM tq ms M) (hU : InU ss [] N) : (M &&& (65535 - N)) < 65536 ∧ ∀ i b, (stays tq ss ms)[i]? = some b → (M &&& (65535 - N)).testBit i = !b := by
  refine ⟨Nat.lt_of_le_of_lt Nat.and_le_left hM.1, fun i b hb => ?_⟩
  have e : 65535 - N = 2 ^ 16 - (N + 1) := by omega
  rw [Nat.testBit_and, e, Nat.testBit_two_pow_sub_succ (n := 16) hU.1, hM.2 i, hU.2 i]
  unfold stays at hb
  rw [List.getElem?_mapIdx] at hb
  obtain ⟨y, hy, rfl⟩ := Option.map_eq_some_iff.1 hb
  rw [hy]
  have hz : M.testBit i = tq y := by rw [hM.2 i, hy]; rfl
  simp only [Option.map_some, Option.getD_some, List.any_nil, Bool.or_false]
  cases hq : tq y with
  | false => simp
  | true =>
    have hi : i < 16 := by
      rcases Nat.lt_or_ge i 16 with h | h
      · exact h
      · rw [Nat.testBit_lt_two_pow (Nat.lt_of_lt_of_le hM.1 (Nat.pow_le_pow_right (n := 2) (by decide) h)), hq] at hz
        cases hz
    rw [decide_eq_true hi]; simp
/-- Around the calls that strip an object. -/
structure JH (w wc : World) (tq : Sm → Bool) (ss : List Sx) (ms : List Sm) (k : Nat) (W : World) (vals : Nat → Value) : Prop where
  low : k ≤ 3 → Below wc.heap.size wc W
  m : 1 ≤ k → k ≤ 2 → ∃ M : Nat, vals 0 = .int .u16 M ∧ InM tq ms M
  u : k = 2 → ∃ N : Nat, vals 1 = .int .u16 N ∧ InU ss [] N
  g : k = 3 → ∃ G : Nat, vals 2 = .int .u16 G ∧ G < 65536 ∧ ∀ i b, (stays tq ss ms)[i]? = some b → G.testBit i = !b
  r : k = 4 → ∃ (L6 : List Sp) (e1 e2 : Option Addr) (g1 g2 N6 M6 : Nat), vals 3 = .agg #[.slice e1 N6 g1, .slice e2 M6 g2] ∧ L6.map Sp.s = (stripA tq ss ms).1 ∧ OwnR W wc.heap.size e1 e2 N6 M6 g1 g2 L6 (stripA tq ss ms).2 ∧ Below wc.heap.size wc W
  f : k = 5 → ∃ (e1 e2 : Option Addr) (g1 g2 N6 M6 : Nat), Has W (w.heap.size + 1) 26 #[.slice e1 N6 g1, .slice e2 M6 g2] ∧ AnsO w (stripA tq ss ms) (.returned (.agg #[.slice e1 N6 g1, .slice e2 M6 g2])) W
set_option maxRecDepth 100000 in
set_option maxHeartbeats 4000000 in
theorem strip_local (w : World) (B : Nat) (a1 a2 : Option Addr) (c1 c2 n m : Nat) (l : List Sp) (ms : List Sm) (hn : n = l.length) (hm : m = ms.length) (h1 : Sects w B a1 l) (h2 : Syms w B a2 ms) (hB : B ≤ w.heap.size) (hlen : n ≤ 9223372036854775807) (hlem : m ≤ 9223372036854775807) (hl : ∀ y ∈ l, y.s.fits) (hs : ∀ x ∈ ms, x.fits) (hnm : ∀ y ∈ l, y.s.name.size ≤ 1048576) :
    Calls Try.prog 48 #[.agg #[.slice a1 n c1, .slice a2 m c2], .func (.func 49) #[] #[]] w (AnsO w (stripA isLocal (l.map Sp.s) ms)) := by
  have hA : Has ((w.alloc (.cells #[.slice a1 n c1, .slice a2 m c2] 26)).alloc (.cells #[.slice none 0 0, .slice none 0 0] 26)) w.heap.size 26 #[.slice a1 n c1, .slice a2 m c2] := (Has.new _ _ _).alloc _
  have hBa : Below w.heap.size w ((w.alloc (.cells #[.slice a1 n c1, .slice a2 m c2] 26)).alloc (.cells #[.slice none 0 0, .slice none 0 0] 26)) := ((Below.refl _ _).alloc (Nat.le_refl _) _).alloc (by simp) _
  have hR : Has ((w.alloc (.cells #[.slice a1 n c1, .slice a2 m c2] 26)).alloc (.cells #[.slice none 0 0, .slice none 0 0] 26)) (w.heap.size + 1) 26 #[.slice none 0 0, .slice none 0 0] := by
    have := Has.new (w.alloc (.cells #[.slice a1 n c1, .slice a2 m c2] 26)) 26 #[.slice none 0 0, .slice none 0 0]
    simpa using this
  obtain ⟨W2, hW2⟩ : ∃ q, ((w.alloc (.cells #[.slice a1 n c1, .slice a2 m c2] 26)).alloc (.cells #[.slice none 0 0, .slice none 0 0] 26)) = q := ⟨_, rfl⟩
  rw [hW2] at hA hBa hR
  have HW2 := hidden hW2
  have x0 : W2.cell? ⟨w.heap.size, 0, none⟩ = some (.slice a1 n c1) := hA.cell 0
  have x1 : W2.cell? ⟨w.heap.size, 1, none⟩ = some (.slice a2 m c2) := hA.cell 1
  have HN := hidden hn
  have HM := hidden hm
  have H1 := hidden (h1.more hB)
  have H2 := hidden (h2.more hB)
  have HNM := hidden hnm
  have HOV := hidden (objectValid_any W2 w.heap.size a1 a2 c1 c2 n m l ms hn hm ((h1.more hB).below hBa) ((h2.more hB).below hBa) hBa.size hlen hlem hl hs)
  obtain ⟨ok, hok⟩ : ∃ q, objOk (l.map Sp.s) ms = q := ⟨_, rfl⟩
  rw [hok] at HOV
  have HOK := hidden hok
  have HA2 := hidden hA
  have HR2 := hidden hR
  have HBA := hidden hBa
  clear h1 h2 hl hs hB hW2 hn hm hA hR hBa hok hnm
  go_enter Try.func48, Try.ntmps48
  go_upto_region 1 with fail
  rw [HW2.out]
  clear HW2
  go_wp2_with fail
  refine HOV.out.mono ?_
  clear HOV x0 x1
  rintro e wc ⟨rfl, hb3⟩
  have HA := hidden (HA2.out.below hb3 HA2.out.lt)
  have HR := hidden (HR2.out.below hb3 HR2.out.lt)
  have HBC := hidden (HBA.out.trans (hb3.mono HBA.out.size))
  clear HA2 HR2 HBA hb3
  cases ok with
  | false =>
    have r0 : wc.cell? ⟨w.heap.size + 1, 0, none⟩ = some (.slice none 0 0) := HR.out.cell 0
    have r1 : wc.cell? ⟨w.heap.size + 1, 1, none⟩ = some (.slice none 0 0) := HR.out.cell 1
    have u0 : wc.frozen? ⟨w.heap.size + 1, 0, none⟩ = false := HR.out.free 0
    have u1 : wc.frozen? ⟨w.heap.size + 1, 1, none⟩ = false := HR.out.free 1
    have HAN : Hid (stripA isLocal (l.map Sp.s) ms = ([], [])) := by
      show _ = _
      unfold stripA
      rw [HOK.out]; rfl
    go_wp2_with fail
    have p1 := (HR.out.put 0 (.slice none 0 0)).put 1 (.slice none 0 0)
    have hb7 : Below w.heap.size w ((wc.setCell ⟨w.heap.size + 1, 0, none⟩ (.slice none 0 0)).setCell ⟨w.heap.size + 1, 1, none⟩ (.slice none 0 0)) := HBC.out.grown (only_trans (only_put' 0 _) (only_put' 1 _)) HBC.out.size (by intro q hq; injection hq with hq; omega)
    refine bodyPost_ret (results_cell_row rfl _ _ (w.heap.size + 1) 26 #[.slice none 0 0, .slice none 0 0] (0, 0) _ rfl p1 Try.underlying26 rfl (by kernel_rfl)) rfl ?_
    rw [HAN.out]
    exact ansO_none _ _ hb7
  | true =>
    have hpa := objOk_parts HOK.out
    have hm12 : m ≤ 12 := by rw [HM.out]; exact hpa.2.1
    have hn8 : n ≤ 8 := by rw [HN.out]; have := hpa.1; rwa [List.length_map] at this
    have hsh : ∀ y ∈ l, y.s.short := fun y hy => by
      obtain ⟨g1, g2, _⟩ := hpa.2.2 y.s (List.mem_map_of_mem hy)
      exact ⟨HNM.out y hy, by omega, by omega⟩
    have hto : ∀ y ∈ l, ∀ f ∈ y.s.fixs, 0 ≤ f.to ∧ f.to < m := fun y hy f hf => by
      rw [HM.out]; exact (hpa.2.2 y.s (List.mem_map_of_mem hy)).2.2 f hf
    have HWH : Hid (∀ W, Below wc.heap.size wc W → Calls Try.prog 79 #[.agg #[.slice a1 n c1, .slice a2 m c2], .func (.func 49) #[] #[]] W fun e w' => (∃ M : Nat, e = .returned (.int .u16 M) ∧ InM isLocal ms M) ∧ Below W.heap.size W w') := fun W hW => by
      have hbw := HBC.out.trans (hW.mono HBC.out.size)
      exact symbolsWhere_local W w.heap.size a1 a2 c1 c2 n m ms HM.out (H2.out.below hbw) hbw.size hm12
    have HUS : Hid (∀ W, Below wc.heap.size wc W → Calls Try.prog 80 #[.agg #[.slice a1 n c1, .slice a2 m c2]] W fun e w' => (∃ N : Nat, e = .returned (.int .u16 N) ∧ InU (l.map Sp.s) [] N) ∧ Below W.heap.size W w') := fun W hW => by
      have hbw := HBC.out.trans (hW.mono HBC.out.size)
      exact symbolsUsed_any W w.heap.size a1 a2 c1 c2 n m l HN.out (H1.out.below hbw) hbw.size (by omega) hm12 (fun y hy => (hsh y hy).2.2) hto
    have HWO : Hid (∀ (W : World) (G : Nat), Below wc.heap.size wc W → G < 65536 → (∀ i b, (stays isLocal (l.map Sp.s) ms)[i]? = some b → G.testBit i = !b) → Calls Try.prog 78 #[.agg #[.slice a1 n c1, .slice a2 m c2], .int .u16 G] W (AnsO W (stripA isLocal (l.map Sp.s) ms))) := fun W G hW hG hk => by
      have hbw := HBC.out.trans (hW.mono HBC.out.size)
      have := withoutSymbols_any W w.heap.size a1 a2 c1 c2 n m l ms HN.out HM.out (H1.out.below hbw) (H2.out.below hbw) hbw.size (by omega) hm12 hsh (stays isLocal (l.map Sp.s) ms) G hG hk (by rw [stays_length]; exact HM.out.symm) hto
      unfold stripA
      rw [if_pos HOK.out]
      exact this
    clear hpa hsh hto H1 H2 HNM hn8 hm12
    have hJ0 : Hid (JH w wc isLocal (l.map Sp.s) ms 0 wc.drew fun _ => undef) := ⟨fun _ => ⟨rfl, rfl, rfl, Nat.le_refl _, fun _ _ => rfl⟩, (fun h _ => absurd h (by decide)), (fun h => by cases h), (fun h => by cases h), (fun h => by cases h), (fun h => by cases h)⟩
    go_upto_region 3 with fail
    refine wp_region_chain (m := 5) (js := [.quiet (.agg #[.slice a1 n c1, .slice a2 m c2]) 3, .quiet (.agg #[.slice a1 n c1, .slice a2 m c2]) 0, .quiet (.func (.func 49) #[] #[]) 5, .chain 0, .quiet (.agg #[.slice a1 n c1, .slice a2 m c2]) 1, .chain 1, .chain 2, .chain 3, .chain 4]) (by kernel_rfl) (JH w wc isLocal (l.map Sp.s) ms) (by kernel_rfl) (by kernel_rfl) ⟨_, hJ0.out⟩ (fun vals => ?_) ?_
    · show SeqW _ _ _ _ _ _ _
      refine ⟨fun kk hkk W hW => ?_, ?_⟩
      · have hA := HA.out.below (hW.low (by omega)) HA.out.lt
        have q0 : W.cell? ⟨w.heap.size, 0, none⟩ = some (.slice a1 n c1) := hA.cell 0
        have q1 : W.cell? ⟨w.heap.size, 1, none⟩ = some (.slice a2 m c2) := hA.cell 1
        unfold Oper.wp
        simp [go_sem, q0, q1]
        try exact ⟨_, rfl, rfl⟩
      simp only [Act.put, List.setIfInBounds_toArray, List.set_cons_succ, List.set_cons_zero]
      refine ⟨fun kk hkk W hW => ?_, ?_⟩
      · have hA := HA.out.below (hW.low (by omega)) HA.out.lt
        have q0 : W.cell? ⟨w.heap.size, 0, none⟩ = some (.slice a1 n c1) := hA.cell 0
        have q1 : W.cell? ⟨w.heap.size, 1, none⟩ = some (.slice a2 m c2) := hA.cell 1
        unfold Oper.wp
        simp [go_sem, q0, q1]
        try exact ⟨_, rfl, rfl⟩
      simp only [Act.put, List.setIfInBounds_toArray, List.set_cons_succ, List.set_cons_zero]
      refine ⟨fun kk hkk W hW => ?_, ?_⟩
      · unfold Oper.wp
        simp [go_sem]
        try exact ⟨_, rfl, rfl⟩
      simp only [Act.put, List.setIfInBounds_toArray, List.set_cons_succ, List.set_cons_zero]
      refine ⟨fun W hW => ?_, ?_⟩
      · unfold Oper.wp
        simp [go_sem]
        refine (HWH.out W (hW.low (by decide))).mono ?_
        rintro e w' ⟨⟨M, rfl, hM⟩, hb⟩
        have hN : JH w wc isLocal (l.map Sp.s) ms 1 w' (upd vals 0 (.int .u16 M)) := ⟨fun _ => (hW.low (by decide)).trans (hb.mono (hW.low (by decide)).size), (fun _ _ => ⟨M, rfl, hM⟩), (fun h => by cases h), (fun h => by cases h), (fun h => by cases h), (fun h => by cases h)⟩
        first | exact hN | exact ⟨_, rfl, hN⟩
      simp only [Act.put, List.setIfInBounds_toArray, List.set_cons_succ, List.set_cons_zero]
      refine ⟨fun kk hkk W hW => ?_, ?_⟩
      · have hA := HA.out.below (hW.low (by omega)) HA.out.lt
        have q0 : W.cell? ⟨w.heap.size, 0, none⟩ = some (.slice a1 n c1) := hA.cell 0
        have q1 : W.cell? ⟨w.heap.size, 1, none⟩ = some (.slice a2 m c2) := hA.cell 1
        unfold Oper.wp
        simp [go_sem, q0, q1]
        try exact ⟨_, rfl, rfl⟩
      simp only [Act.put, List.setIfInBounds_toArray, List.set_cons_succ, List.set_cons_zero]
      refine ⟨fun W hW => ?_, ?_⟩
      · obtain ⟨M, hv0, hM⟩ := hW.m (by decide) (by decide)
        unfold Oper.wp
        simp [go_sem]
        refine (HUS.out W (hW.low (by decide))).mono ?_
        rintro e w' ⟨⟨N, rfl, hU⟩, hb⟩
        have hN : JH w wc isLocal (l.map Sp.s) ms 2 w' (upd vals 1 (.int .u16 N)) := ⟨fun _ => (hW.low (by decide)).trans (hb.mono (hW.low (by decide)).size), (fun _ _ => ⟨M, hv0, hM⟩), (fun _ => ⟨N, rfl, hU⟩), (fun h => by cases h), (fun h => by cases h), (fun h => by cases h)⟩
        first | exact hN | exact ⟨_, rfl, hN⟩
      simp only [Act.put, List.setIfInBounds_toArray, List.set_cons_succ, List.set_cons_zero]
      refine ⟨fun W hW => ?_, ?_⟩
      · obtain ⟨M, hv0, hM⟩ := hW.m (by decide) (by decide)
        obtain ⟨N, hv1, hU⟩ := hW.u rfl
        rw [hv0, hv1]
        have hN : JH w wc isLocal (l.map Sp.s) ms 3 W (upd vals 2 (.int .u16 (M &&& (65535 - N) : Nat))) := ⟨fun _ => hW.low (by decide), (fun _ h => absurd h (by decide)), (fun h => by cases h), (fun _ => ⟨_, rfl, gone_bits hM hU⟩), (fun h => by cases h), (fun h => by cases h)⟩
        have hbo : bits .andNot .u16 (M : Int) (N : Int) = ((M &&& (65535 - N) : Nat) : Int) := u16_andNot_nat M N hM.1 hU.1
        unfold Oper.wp
        simp [go_sem, hbo]
        first | exact hN | exact ⟨_, rfl, hN⟩
      simp only [Act.put, List.setIfInBounds_toArray, List.set_cons_succ, List.set_cons_zero]
      refine ⟨fun W hW => ?_, ?_⟩
      · obtain ⟨G, hv2, hG, hk⟩ := hW.g rfl
        rw [hv2]
        unfold Oper.wp
        simp [go_sem]
        refine (HWO.out W G (hW.low (by decide)) hG hk).mono ?_
        rintro e w' ⟨L6, e1, e2, g1, g2, rfl, hL6, hown6, hb6⟩
        have hN : JH w wc isLocal (l.map Sp.s) ms 4 w' (upd vals 3 (.agg #[.slice e1 L6.length g1, .slice e2 (stripA isLocal (l.map Sp.s) ms).2.length g2])) :=
          ⟨(fun h => absurd h (by decide)), (fun _ h => absurd h (by decide)), (fun h => by cases h), (fun h => by cases h), (fun _ => ⟨L6, e1, e2, g1, g2, _, _, rfl, hL6, ⟨Nat.le_trans (hW.low (by decide)).size hown6.low, hown6.len, hown6.lem, hown6.secs.lower (hW.low (by decide)).size, row_lower hown6.syms (hW.low (by decide)).size⟩, (hW.low (by decide)).trans (hb6.mono (hW.low (by decide)).size)⟩), (fun h => by cases h)⟩
        first | exact hN | exact ⟨_, rfl, hN⟩
      simp only [Act.put, List.setIfInBounds_toArray, List.set_cons_succ, List.set_cons_zero]
      refine ⟨fun W hW => ?_, trivial⟩
      obtain ⟨L6, e1, e2, g1, g2, N6, M6, hv3, hL6, hown6, hb6⟩ := hW.r rfl
      rw [hv3]
      have hr6 := HR.out.below hb6 HR.out.lt
      have r0 : W.cell? ⟨w.heap.size + 1, 0, none⟩ = some (.slice none 0 0) := hr6.cell 0
      have r1 : W.cell? ⟨w.heap.size + 1, 1, none⟩ = some (.slice none 0 0) := hr6.cell 1
      have u0 : W.frozen? ⟨w.heap.size + 1, 0, none⟩ = false := hr6.free 0
      have u1 : W.frozen? ⟨w.heap.size + 1, 1, none⟩ = false := hr6.free 1
      have hfin := ans_store hr6 HR.out.lt hown6 hL6 (HBC.out.trans (hb6.mono HBC.out.size))
      have hN : ∀ u, JH w wc isLocal (l.map Sp.s) ms 5 ((W.setCell ⟨w.heap.size + 1, 0, none⟩ (.slice e1 N6 g1)).setCell ⟨w.heap.size + 1, 1, none⟩ (.slice e2 M6 g2)) (upd vals 4 u) := fun u =>
        ⟨(fun h => absurd h (by decide)), (fun _ h => absurd h (by decide)), (fun h => by cases h), (fun h => by cases h), (fun h => by cases h), (fun _ => ⟨_, _, _, _, _, _, hfin⟩)⟩
      clear hr6 hown6 hL6 hb6 hfin hW hv3
      unfold Oper.wp
      simp [go_sem, r0, r1, u0, u1]
      first | exact hN _ | exact ⟨undef, hN _⟩ | exact ⟨_, rfl, hN _⟩
    · intro W vals hJ
      obtain ⟨e1, e2, g1, g2, N6, M6, hfin⟩ := hJ.f rfl
      have HP := hidden hfin.1
      have HAN := hidden hfin.2
      simp only [putAll, List.map_cons, List.map_nil, Job.val, Act.put, List.setIfInBounds_toArray, List.set_cons_succ, List.set_cons_zero]
      clear hJ hfin hJ0 HWH HUS HWO HA HR HBC
      go_wp2_with fail
      exact bodyPost_ret (results_cell_row rfl _ _ (w.heap.size + 1) 26 #[.slice e1 N6 g1, .slice e2 M6 g2] (0, 0) _ rfl HP.out Try.underlying26 rfl (by kernel_rfl)) rfl HAN.out
set_option maxRecDepth 100000 in
set_option maxHeartbeats 4000000 in
theorem strip_wanted (w : World) (B : Nat) (a1 a2 : Option Addr) (c1 c2 n m : Nat) (l : List Sp) (ms : List Sm) (hn : n = l.length) (hm : m = ms.length) (h1 : Sects w B a1 l) (h2 : Syms w B a2 ms) (hB : B ≤ w.heap.size) (hlen : n ≤ 9223372036854775807) (hlem : m ≤ 9223372036854775807) (hl : ∀ y ∈ l, y.s.fits) (hs : ∀ x ∈ ms, x.fits) (hnm : ∀ y ∈ l, y.s.name.size ≤ 1048576) :
    Calls Try.prog 48 #[.agg #[.slice a1 n c1, .slice a2 m c2], .func (.func 56) #[] #[]] w (AnsO w (stripA isWanted (l.map Sp.s) ms)) := by
  have hA : Has ((w.alloc (.cells #[.slice a1 n c1, .slice a2 m c2] 26)).alloc (.cells #[.slice none 0 0, .slice none 0 0] 26)) w.heap.size 26 #[.slice a1 n c1, .slice a2 m c2] := (Has.new _ _ _).alloc _
  have hBa : Below w.heap.size w ((w.alloc (.cells #[.slice a1 n c1, .slice a2 m c2] 26)).alloc (.cells #[.slice none 0 0, .slice none 0 0] 26)) := ((Below.refl _ _).alloc (Nat.le_refl _) _).alloc (by simp) _
  have hR : Has ((w.alloc (.cells #[.slice a1 n c1, .slice a2 m c2] 26)).alloc (.cells #[.slice none 0 0, .slice none 0 0] 26)) (w.heap.size + 1) 26 #[.slice none 0 0, .slice none 0 0] := by
    have := Has.new (w.alloc (.cells #[.slice a1 n c1, .slice a2 m c2] 26)) 26 #[.slice none 0 0, .slice none 0 0]
    simpa using this
  obtain ⟨W2, hW2⟩ : ∃ q, ((w.alloc (.cells #[.slice a1 n c1, .slice a2 m c2] 26)).alloc (.cells #[.slice none 0 0, .slice none 0 0] 26)) = q := ⟨_, rfl⟩
  rw [hW2] at hA hBa hR
  have HW2 := hidden hW2
  have x0 : W2.cell? ⟨w.heap.size, 0, none⟩ = some (.slice a1 n c1) := hA.cell 0
  have x1 : W2.cell? ⟨w.heap.size, 1, none⟩ = some (.slice a2 m c2) := hA.cell 1
  have HN := hidden hn
  have HM := hidden hm
  have H1 := hidden (h1.more hB)
  have H2 := hidden (h2.more hB)
  have HNM := hidden hnm
  have HOV := hidden (objectValid_any W2 w.heap.size a1 a2 c1 c2 n m l ms hn hm ((h1.more hB).below hBa) ((h2.more hB).below hBa) hBa.size hlen hlem hl hs)
  obtain ⟨ok, hok⟩ : ∃ q, objOk (l.map Sp.s) ms = q := ⟨_, rfl⟩
  rw [hok] at HOV
  have HOK := hidden hok
  have HA2 := hidden hA
  have HR2 := hidden hR
  have HBA := hidden hBa
  clear h1 h2 hl hs hB hW2 hn hm hA hR hBa hok hnm
  go_enter Try.func48, Try.ntmps48
  go_upto_region 1 with fail
  rw [HW2.out]
  clear HW2
  go_wp2_with fail
  refine HOV.out.mono ?_
  clear HOV x0 x1
  rintro e wc ⟨rfl, hb3⟩
  have HA := hidden (HA2.out.below hb3 HA2.out.lt)
  have HR := hidden (HR2.out.below hb3 HR2.out.lt)
  have HBC := hidden (HBA.out.trans (hb3.mono HBA.out.size))
  clear HA2 HR2 HBA hb3
  cases ok with
  | false =>
    have r0 : wc.cell? ⟨w.heap.size + 1, 0, none⟩ = some (.slice none 0 0) := HR.out.cell 0
    have r1 : wc.cell? ⟨w.heap.size + 1, 1, none⟩ = some (.slice none 0 0) := HR.out.cell 1
    have u0 : wc.frozen? ⟨w.heap.size + 1, 0, none⟩ = false := HR.out.free 0
    have u1 : wc.frozen? ⟨w.heap.size + 1, 1, none⟩ = false := HR.out.free 1
    have HAN : Hid (stripA isWanted (l.map Sp.s) ms = ([], [])) := by
      show _ = _
      unfold stripA
      rw [HOK.out]; rfl
    go_wp2_with fail
    have p1 := (HR.out.put 0 (.slice none 0 0)).put 1 (.slice none 0 0)
    have hb7 : Below w.heap.size w ((wc.setCell ⟨w.heap.size + 1, 0, none⟩ (.slice none 0 0)).setCell ⟨w.heap.size + 1, 1, none⟩ (.slice none 0 0)) := HBC.out.grown (only_trans (only_put' 0 _) (only_put' 1 _)) HBC.out.size (by intro q hq; injection hq with hq; omega)
    refine bodyPost_ret (results_cell_row rfl _ _ (w.heap.size + 1) 26 #[.slice none 0 0, .slice none 0 0] (0, 0) _ rfl p1 Try.underlying26 rfl (by kernel_rfl)) rfl ?_
    rw [HAN.out]
    exact ansO_none _ _ hb7
  | true =>
    have hpa := objOk_parts HOK.out
    have hm12 : m ≤ 12 := by rw [HM.out]; exact hpa.2.1
    have hn8 : n ≤ 8 := by rw [HN.out]; have := hpa.1; rwa [List.length_map] at this
    have hsh : ∀ y ∈ l, y.s.short := fun y hy => by
      obtain ⟨g1, g2, _⟩ := hpa.2.2 y.s (List.mem_map_of_mem hy)
      exact ⟨HNM.out y hy, by omega, by omega⟩
    have hto : ∀ y ∈ l, ∀ f ∈ y.s.fixs, 0 ≤ f.to ∧ f.to < m := fun y hy f hf => by
      rw [HM.out]; exact (hpa.2.2 y.s (List.mem_map_of_mem hy)).2.2 f hf
    have HWH : Hid (∀ W, Below wc.heap.size wc W → Calls Try.prog 79 #[.agg #[.slice a1 n c1, .slice a2 m c2], .func (.func 56) #[] #[]] W fun e w' => (∃ M : Nat, e = .returned (.int .u16 M) ∧ InM isWanted ms M) ∧ Below W.heap.size W w') := fun W hW => by
      have hbw := HBC.out.trans (hW.mono HBC.out.size)
      exact symbolsWhere_wanted W w.heap.size a1 a2 c1 c2 n m ms HM.out (H2.out.below hbw) hbw.size hm12
    have HUS : Hid (∀ W, Below wc.heap.size wc W → Calls Try.prog 80 #[.agg #[.slice a1 n c1, .slice a2 m c2]] W fun e w' => (∃ N : Nat, e = .returned (.int .u16 N) ∧ InU (l.map Sp.s) [] N) ∧ Below W.heap.size W w') := fun W hW => by
      have hbw := HBC.out.trans (hW.mono HBC.out.size)
      exact symbolsUsed_any W w.heap.size a1 a2 c1 c2 n m l HN.out (H1.out.below hbw) hbw.size (by omega) hm12 (fun y hy => (hsh y hy).2.2) hto
    have HWO : Hid (∀ (W : World) (G : Nat), Below wc.heap.size wc W → G < 65536 → (∀ i b, (stays isWanted (l.map Sp.s) ms)[i]? = some b → G.testBit i = !b) → Calls Try.prog 78 #[.agg #[.slice a1 n c1, .slice a2 m c2], .int .u16 G] W (AnsO W (stripA isWanted (l.map Sp.s) ms))) := fun W G hW hG hk => by
      have hbw := HBC.out.trans (hW.mono HBC.out.size)
      have := withoutSymbols_any W w.heap.size a1 a2 c1 c2 n m l ms HN.out HM.out (H1.out.below hbw) (H2.out.below hbw) hbw.size (by omega) hm12 hsh (stays isWanted (l.map Sp.s) ms) G hG hk (by rw [stays_length]; exact HM.out.symm) hto
      unfold stripA
      rw [if_pos HOK.out]
      exact this
    clear hpa hsh hto H1 H2 HNM hn8 hm12
    have hJ0 : Hid (JH w wc isWanted (l.map Sp.s) ms 0 wc.drew fun _ => undef) := ⟨fun _ => ⟨rfl, rfl, rfl, Nat.le_refl _, fun _ _ => rfl⟩, (fun h _ => absurd h (by decide)), (fun h => by cases h), (fun h => by cases h), (fun h => by cases h), (fun h => by cases h)⟩
    go_upto_region 3 with fail
    refine wp_region_chain (m := 5) (js := [.quiet (.agg #[.slice a1 n c1, .slice a2 m c2]) 3, .quiet (.agg #[.slice a1 n c1, .slice a2 m c2]) 0, .quiet (.func (.func 56) #[] #[]) 5, .chain 0, .quiet (.agg #[.slice a1 n c1, .slice a2 m c2]) 1, .chain 1, .chain 2, .chain 3, .chain 4]) (by kernel_rfl) (JH w wc isWanted (l.map Sp.s) ms) (by kernel_rfl) (by kernel_rfl) ⟨_, hJ0.out⟩ (fun vals => ?_) ?_
    · show SeqW _ _ _ _ _ _ _
      refine ⟨fun kk hkk W hW => ?_, ?_⟩
      · have hA := HA.out.below (hW.low (by omega)) HA.out.lt
        have q0 : W.cell? ⟨w.heap.size, 0, none⟩ = some (.slice a1 n c1) := hA.cell 0
        have q1 : W.cell? ⟨w.heap.size, 1, none⟩ = some (.slice a2 m c2) := hA.cell 1
        unfold Oper.wp
        simp [go_sem, q0, q1]
        try exact ⟨_, rfl, rfl⟩
      simp only [Act.put, List.setIfInBounds_toArray, List.set_cons_succ, List.set_cons_zero]
      refine ⟨fun kk hkk W hW => ?_, ?_⟩
      · have hA := HA.out.below (hW.low (by omega)) HA.out.lt
        have q0 : W.cell? ⟨w.heap.size, 0, none⟩ = some (.slice a1 n c1) := hA.cell 0
        have q1 : W.cell? ⟨w.heap.size, 1, none⟩ = some (.slice a2 m c2) := hA.cell 1
        unfold Oper.wp
        simp [go_sem, q0, q1]
        try exact ⟨_, rfl, rfl⟩
      simp only [Act.put, List.setIfInBounds_toArray, List.set_cons_succ, List.set_cons_zero]
      refine ⟨fun kk hkk W hW => ?_, ?_⟩
      · unfold Oper.wp
        simp [go_sem]
        try exact ⟨_, rfl, rfl⟩
      simp only [Act.put, List.setIfInBounds_toArray, List.set_cons_succ, List.set_cons_zero]
      refine ⟨fun W hW => ?_, ?_⟩
      · unfold Oper.wp
        simp [go_sem]
        refine (HWH.out W (hW.low (by decide))).mono ?_
        rintro e w' ⟨⟨M, rfl, hM⟩, hb⟩
        have hN : JH w wc isWanted (l.map Sp.s) ms 1 w' (upd vals 0 (.int .u16 M)) := ⟨fun _ => (hW.low (by decide)).trans (hb.mono (hW.low (by decide)).size), (fun _ _ => ⟨M, rfl, hM⟩), (fun h => by cases h), (fun h => by cases h), (fun h => by cases h), (fun h => by cases h)⟩
        first | exact hN | exact ⟨_, rfl, hN⟩
      simp only [Act.put, List.setIfInBounds_toArray, List.set_cons_succ, List.set_cons_zero]
      refine ⟨fun kk hkk W hW => ?_, ?_⟩
      · have hA := HA.out.below (hW.low (by omega)) HA.out.lt
        have q0 : W.cell? ⟨w.heap.size, 0, none⟩ = some (.slice a1 n c1) := hA.cell 0
        have q1 : W.cell? ⟨w.heap.size, 1, none⟩ = some (.slice a2 m c2) := hA.cell 1
        unfold Oper.wp
        simp [go_sem, q0, q1]
        try exact ⟨_, rfl, rfl⟩
      simp only [Act.put, List.setIfInBounds_toArray, List.set_cons_succ, List.set_cons_zero]
      refine ⟨fun W hW => ?_, ?_⟩
      · obtain ⟨M, hv0, hM⟩ := hW.m (by decide) (by decide)
        unfold Oper.wp
        simp [go_sem]
        refine (HUS.out W (hW.low (by decide))).mono ?_
        rintro e w' ⟨⟨N, rfl, hU⟩, hb⟩
        have hN : JH w wc isWanted (l.map Sp.s) ms 2 w' (upd vals 1 (.int .u16 N)) := ⟨fun _ => (hW.low (by decide)).trans (hb.mono (hW.low (by decide)).size), (fun _ _ => ⟨M, hv0, hM⟩), (fun _ => ⟨N, rfl, hU⟩), (fun h => by cases h), (fun h => by cases h), (fun h => by cases h)⟩
        first | exact hN | exact ⟨_, rfl, hN⟩
      simp only [Act.put, List.setIfInBounds_toArray, List.set_cons_succ, List.set_cons_zero]
      refine ⟨fun W hW => ?_, ?_⟩
      · obtain ⟨M, hv0, hM⟩ := hW.m (by decide) (by decide)
        obtain ⟨N, hv1, hU⟩ := hW.u rfl
        rw [hv0, hv1]
        have hN : JH w wc isWanted (l.map Sp.s) ms 3 W (upd vals 2 (.int .u16 (M &&& (65535 - N) : Nat))) := ⟨fun _ => hW.low (by decide), (fun _ h => absurd h (by decide)), (fun h => by cases h), (fun _ => ⟨_, rfl, gone_bits hM hU⟩), (fun h => by cases h), (fun h => by cases h)⟩
        have hbo : bits .andNot .u16 (M : Int) (N : Int) = ((M &&& (65535 - N) : Nat) : Int) := u16_andNot_nat M N hM.1 hU.1
        unfold Oper.wp
        simp [go_sem, hbo]
        first | exact hN | exact ⟨_, rfl, hN⟩
      simp only [Act.put, List.setIfInBounds_toArray, List.set_cons_succ, List.set_cons_zero]
      refine ⟨fun W hW => ?_, ?_⟩
      · obtain ⟨G, hv2, hG, hk⟩ := hW.g rfl
        rw [hv2]
        unfold Oper.wp
        simp [go_sem]
        refine (HWO.out W G (hW.low (by decide)) hG hk).mono ?_
        rintro e w' ⟨L6, e1, e2, g1, g2, rfl, hL6, hown6, hb6⟩
        have hN : JH w wc isWanted (l.map Sp.s) ms 4 w' (upd vals 3 (.agg #[.slice e1 L6.length g1, .slice e2 (stripA isWanted (l.map Sp.s) ms).2.length g2])) :=
          ⟨(fun h => absurd h (by decide)), (fun _ h => absurd h (by decide)), (fun h => by cases h), (fun h => by cases h), (fun _ => ⟨L6, e1, e2, g1, g2, _, _, rfl, hL6, ⟨Nat.le_trans (hW.low (by decide)).size hown6.low, hown6.len, hown6.lem, hown6.secs.lower (hW.low (by decide)).size, row_lower hown6.syms (hW.low (by decide)).size⟩, (hW.low (by decide)).trans (hb6.mono (hW.low (by decide)).size)⟩), (fun h => by cases h)⟩
        first | exact hN | exact ⟨_, rfl, hN⟩
      simp only [Act.put, List.setIfInBounds_toArray, List.set_cons_succ, List.set_cons_zero]
      refine ⟨fun W hW => ?_, trivial⟩
      obtain ⟨L6, e1, e2, g1, g2, N6, M6, hv3, hL6, hown6, hb6⟩ := hW.r rfl
      rw [hv3]
      have hr6 := HR.out.below hb6 HR.out.lt
      have r0 : W.cell? ⟨w.heap.size + 1, 0, none⟩ = some (.slice none 0 0) := hr6.cell 0
      have r1 : W.cell? ⟨w.heap.size + 1, 1, none⟩ = some (.slice none 0 0) := hr6.cell 1
      have u0 : W.frozen? ⟨w.heap.size + 1, 0, none⟩ = false := hr6.free 0
      have u1 : W.frozen? ⟨w.heap.size + 1, 1, none⟩ = false := hr6.free 1
      have hfin := ans_store hr6 HR.out.lt hown6 hL6 (HBC.out.trans (hb6.mono HBC.out.size))
      have hN : ∀ u, JH w wc isWanted (l.map Sp.s) ms 5 ((W.setCell ⟨w.heap.size + 1, 0, none⟩ (.slice e1 N6 g1)).setCell ⟨w.heap.size + 1, 1, none⟩ (.slice e2 M6 g2)) (upd vals 4 u) := fun u =>
        ⟨(fun h => absurd h (by decide)), (fun _ h => absurd h (by decide)), (fun h => by cases h), (fun h => by cases h), (fun h => by cases h), (fun _ => ⟨_, _, _, _, _, _, hfin⟩)⟩
      clear hr6 hown6 hL6 hb6 hfin hW hv3
      unfold Oper.wp
      simp [go_sem, r0, r1, u0, u1]
      first | exact hN _ | exact ⟨undef, hN _⟩ | exact ⟨_, rfl, hN _⟩
    · intro W vals hJ
      obtain ⟨e1, e2, g1, g2, N6, M6, hfin⟩ := hJ.f rfl
      have HP := hidden hfin.1
      have HAN := hidden hfin.2
      simp only [putAll, List.map_cons, List.map_nil, Job.val, Act.put, List.setIfInBounds_toArray, List.set_cons_succ, List.set_cons_zero]
      clear hJ hfin hJ0 HWH HUS HWO HA HR HBC
      go_wp2_with fail
      exact bodyPost_ret (results_cell_row rfl _ _ (w.heap.size + 1) 26 #[.slice e1 N6 g1, .slice e2 M6 g2] (0, 0) _ rfl HP.out Try.underlying26 rfl (by kernel_rfl)) rfl HAN.out
set_option maxRecDepth 100000 in
set_option maxHeartbeats 2000000 in
theorem stripLocals_any (w : World) (B : Nat) (a1 a2 : Option Addr) (c1 c2 n m : Nat) (l : List Sp) (ms : List Sm) (hn : n = l.length) (hm : m = ms.length) (h1 : Sects w B a1 l) (h2 : Syms w B a2 ms) (hB : B ≤ w.heap.size) (hlen : n ≤ 9223372036854775807) (hlem : m ≤ 9223372036854775807) (hl : ∀ y ∈ l, y.s.fits) (hs : ∀ x ∈ ms, x.fits) (hnm : ∀ y ∈ l, y.s.name.size ≤ 1048576) :
    Calls Try.prog 18 #[.agg #[.slice a1 n c1, .slice a2 m c2]] w (AnsO w (stripA isLocal (l.map Sp.s) ms)) := by
  have hA : Has ((w.alloc (.cells #[.slice a1 n c1, .slice a2 m c2] 26)).alloc (.cells #[.slice none 0 0, .slice none 0 0] 26)) w.heap.size 26 #[.slice a1 n c1, .slice a2 m c2] := (Has.new _ _ _).alloc _
  have hBa : Below w.heap.size w ((w.alloc (.cells #[.slice a1 n c1, .slice a2 m c2] 26)).alloc (.cells #[.slice none 0 0, .slice none 0 0] 26)) := ((Below.refl _ _).alloc (Nat.le_refl _) _).alloc (by simp) _
  have hR : Has ((w.alloc (.cells #[.slice a1 n c1, .slice a2 m c2] 26)).alloc (.cells #[.slice none 0 0, .slice none 0 0] 26)) (w.heap.size + 1) 26 #[.slice none 0 0, .slice none 0 0] := by
    have := Has.new (w.alloc (.cells #[.slice a1 n c1, .slice a2 m c2] 26)) 26 #[.slice none 0 0, .slice none 0 0]
    simpa using this
  obtain ⟨W2, hW2⟩ : ∃ q, ((w.alloc (.cells #[.slice a1 n c1, .slice a2 m c2] 26)).alloc (.cells #[.slice none 0 0, .slice none 0 0] 26)) = q := ⟨_, rfl⟩
  rw [hW2] at hA hBa hR
  have HW2 := hidden hW2
  have x0 : W2.cell? ⟨w.heap.size, 0, none⟩ = some (.slice a1 n c1) := hA.cell 0
  have x1 : W2.cell? ⟨w.heap.size, 1, none⟩ = some (.slice a2 m c2) := hA.cell 1
  have HST := hidden (strip_local W2 w.heap.size a1 a2 c1 c2 n m l ms hn hm ((h1.more hB).below hBa) ((h2.more hB).below hBa) hBa.size hlen hlem hl hs hnm)
  have HR := hidden hR
  have HBA := hidden hBa
  clear h1 h2 hl hs hB hW2 hn hm hA hR hBa hnm
  go_enter Try.func18, Try.ntmps18
  go_upto_region 1 with fail
  rw [HW2.out]
  clear HW2
  go_wp2_with fail
  refine HST.out.mono ?_
  clear HST x0 x1
  rintro e w6 ⟨L6, e1, e2, g1, g2, rfl, hL6, hown6, hb6⟩
  have hr6 := HR.out.below hb6 HR.out.lt
  have r0 : w6.cell? ⟨w.heap.size + 1, 0, none⟩ = some (.slice none 0 0) := hr6.cell 0
  have r1 : w6.cell? ⟨w.heap.size + 1, 1, none⟩ = some (.slice none 0 0) := hr6.cell 1
  have u0 : w6.frozen? ⟨w.heap.size + 1, 0, none⟩ = false := hr6.free 0
  have u1 : w6.frozen? ⟨w.heap.size + 1, 1, none⟩ = false := hr6.free 1
  have hfin := ans_store hr6 HR.out.lt hown6 hL6 (HBA.out.trans (hb6.mono HBA.out.size))
  obtain ⟨N6, hN6⟩ : ∃ q, L6.length = q := ⟨_, rfl⟩
  obtain ⟨M6, hM6⟩ : ∃ q, (stripA isLocal (l.map Sp.s) ms).2.length = q := ⟨_, rfl⟩
  rw [hN6, hM6] at hfin
  rw [hN6, hM6]
  have HP := hidden hfin.1
  have HAN := hidden hfin.2
  clear hr6 hown6 hL6 hb6 hfin hN6 hM6
  go_wp2_with fail
  exact bodyPost_ret (results_cell_row rfl _ _ (w.heap.size + 1) 26 #[.slice e1 N6 g1, .slice e2 M6 g2] (0, 0) _ rfl HP.out Try.underlying26 rfl (by kernel_rfl)) rfl HAN.out
set_option maxRecDepth 100000 in
set_option maxHeartbeats 2000000 in
theorem stripWanted_any (w : World) (B : Nat) (a1 a2 : Option Addr) (c1 c2 n m : Nat) (l : List Sp) (ms : List Sm) (hn : n = l.length) (hm : m = ms.length) (h1 : Sects w B a1 l) (h2 : Syms w B a2 ms) (hB : B ≤ w.heap.size) (hlen : n ≤ 9223372036854775807) (hlem : m ≤ 9223372036854775807) (hl : ∀ y ∈ l, y.s.fits) (hs : ∀ x ∈ ms, x.fits) (hnm : ∀ y ∈ l, y.s.name.size ≤ 1048576) :
    Calls Try.prog 23 #[.agg #[.slice a1 n c1, .slice a2 m c2]] w (AnsO w (stripA isWanted (l.map Sp.s) ms)) := by
  have hA : Has ((w.alloc (.cells #[.slice a1 n c1, .slice a2 m c2] 26)).alloc (.cells #[.slice none 0 0, .slice none 0 0] 26)) w.heap.size 26 #[.slice a1 n c1, .slice a2 m c2] := (Has.new _ _ _).alloc _
  have hBa : Below w.heap.size w ((w.alloc (.cells #[.slice a1 n c1, .slice a2 m c2] 26)).alloc (.cells #[.slice none 0 0, .slice none 0 0] 26)) := ((Below.refl _ _).alloc (Nat.le_refl _) _).alloc (by simp) _
  have hR : Has ((w.alloc (.cells #[.slice a1 n c1, .slice a2 m c2] 26)).alloc (.cells #[.slice none 0 0, .slice none 0 0] 26)) (w.heap.size + 1) 26 #[.slice none 0 0, .slice none 0 0] := by
    have := Has.new (w.alloc (.cells #[.slice a1 n c1, .slice a2 m c2] 26)) 26 #[.slice none 0 0, .slice none 0 0]
    simpa using this
  obtain ⟨W2, hW2⟩ : ∃ q, ((w.alloc (.cells #[.slice a1 n c1, .slice a2 m c2] 26)).alloc (.cells #[.slice none 0 0, .slice none 0 0] 26)) = q := ⟨_, rfl⟩
  rw [hW2] at hA hBa hR
  have HW2 := hidden hW2
  have x0 : W2.cell? ⟨w.heap.size, 0, none⟩ = some (.slice a1 n c1) := hA.cell 0
  have x1 : W2.cell? ⟨w.heap.size, 1, none⟩ = some (.slice a2 m c2) := hA.cell 1
  have HST := hidden (strip_wanted W2 w.heap.size a1 a2 c1 c2 n m l ms hn hm ((h1.more hB).below hBa) ((h2.more hB).below hBa) hBa.size hlen hlem hl hs hnm)
  have HR := hidden hR
  have HBA := hidden hBa
  clear h1 h2 hl hs hB hW2 hn hm hA hR hBa hnm
  go_enter Try.func23, Try.ntmps23
  go_upto_region 1 with fail
  rw [HW2.out]
  clear HW2
  go_wp2_with fail
  refine HST.out.mono ?_
  clear HST x0 x1
  rintro e w6 ⟨L6, e1, e2, g1, g2, rfl, hL6, hown6, hb6⟩
  have hr6 := HR.out.below hb6 HR.out.lt
  have r0 : w6.cell? ⟨w.heap.size + 1, 0, none⟩ = some (.slice none 0 0) := hr6.cell 0
  have r1 : w6.cell? ⟨w.heap.size + 1, 1, none⟩ = some (.slice none 0 0) := hr6.cell 1
  have u0 : w6.frozen? ⟨w.heap.size + 1, 0, none⟩ = false := hr6.free 0
  have u1 : w6.frozen? ⟨w.heap.size + 1, 1, none⟩ = false := hr6.free 1
  have hfin := ans_store hr6 HR.out.lt hown6 hL6 (HBA.out.trans (hb6.mono HBA.out.size))
  obtain ⟨N6, hN6⟩ : ∃ q, L6.length = q := ⟨_, rfl⟩
  obtain ⟨M6, hM6⟩ : ∃ q, (stripA isWanted (l.map Sp.s) ms).2.length = q := ⟨_, rfl⟩
  rw [hN6, hM6] at hfin
  rw [hN6, hM6]
  have HP := hidden hfin.1
  have HAN := hidden hfin.2
  clear hr6 hown6 hL6 hb6 hfin hN6 hM6
  go_wp2_with fail
  exact bodyPost_ret (results_cell_row rfl _ _ (w.heap.size + 1) 26 #[.slice e1 N6 g1, .slice e2 M6 g2] (0, 0) _ rfl HP.out Try.underlying26 rfl (by kernel_rfl)) rfl HAN.out

end Go.Proofs.Ytlkhfgfficehcaa

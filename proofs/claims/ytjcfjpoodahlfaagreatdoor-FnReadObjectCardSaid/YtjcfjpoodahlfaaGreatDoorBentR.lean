import Derived.Deep.CutBlock
import Derived.IntWalk
import Derived.Test.YtjcfjpoodahlfaaGreatDoorDrawO
import Derived.Test.YtjcfjpoodahlfaaGreatDoorWriteS
import Derived.Test.YtjcfjpoodahlfaaGreatDoorSamE
namespace Go.Proofs.YtjcfjpoodahlfaaGreatDoor
open Go.RowKit
def GotB (B g : Nat) (P : Int) (w : World) (most : Nat) (v : Value) (w' : World) : Prop :=
  ∃ (a : Option Addr) (c : Nat) (l : List Int), v = .slice a l.length c ∧ l.length ≤ most ∧ l.length ≤ c ∧ c ≤ maxLen ∧ Ints w' .u8 w'.heap.size a l ∧ Rd w' B g P ∧ w.grownBy w' (some g)
def CB (w : World) (B g : Nat) (P : Int) (v : Value) (n : Nat) (l : List Int) (W : World) : Prop :=
  Rd W B g P ∧ w.grownBy W (some g) ∧ W.ownsRow w.heap.size 5 1 v n (l.map (Value.int .u8))
def JBent (w : World) (B g : Nat) (P : Int) (v : Value) (n : Nat) (l : List Int) : Nat → World → (Nat → Value) → Prop
  | 0, W, _ => CB w B g P v n l W
  | 1, W, vals => CB w B g (P + 1) v n l W ∧ ∃ z : Int, 0 ≤ z ∧ z < 255 ∧ vals 0 = .int .i64 z
  | 2, W, vals => CB w B g (P + 1) v n l W ∧ ∃ z : Int, 0 ≤ z ∧ z < 256 ∧ vals 1 = .int .i64 z
  | 3, W, vals => CB w B g (P + 1) v n l W ∧ ∃ z : Int, 0 ≤ z ∧ z < 256 ∧ vals 2 = .int .u8 z
  | 4, W, vals => CB w B g (P + 1) v n l W ∧ ∃ z : Int, 0 ≤ z ∧ z < 256 ∧ vals 3 = .int .u8 z
  | _, W, _ => ∃ l' : List Int, l'.length = n ∧ (∀ x ∈ l', (Lit.int .u8 x).wf = true) ∧ CB w B g (P + 1) v n l' W
theorem JBent.own {w : World} {B g : Nat} {P : Int} {v : Value} {n : Nat} {l : List Int} {k : Nat} {W : World} {vals : Nat → Value} (hk : k ≤ 4) (h : JBent w B g P v n l k W vals) : W.ownsRow w.heap.size 5 1 v n (l.map (Value.int .u8)) := by
  match k, hk, h with
  | 0, _, h => exact h.2.2
  | 1, _, h => exact h.1.2.2
  | 2, _, h => exact h.1.2.2
  | 3, _, h => exact h.1.2.2
  | 4, _, h => exact h.1.2.2
set_option maxRecDepth 100000 in
set_option maxHeartbeats 2000000 in
theorem l20Bent_any (w : World) (B g : Nat) (P : Int) (h : Rd w B g P) (hP : P ≤ 100000) (b off cap n : Nat) (l : List Int) (hn : n = l.length) (hn6 : n ≤ 900000) (hwf : ∀ x ∈ l, (Lit.int .u8 x).wf = true)
    (hc : ∀ j u, (l.map (Value.int .u8))[j]? = some u → w.cell? ⟨b, off + j, none⟩ = some u) (hb : b < w.heap.size) :
    Calls Tryz.prog 45 #[.pointer (some ⟨g, 0, none⟩), .slice (some ⟨b, off, none⟩) n cap] w fun e w' => ∃ v, e = .returned v ∧ GotB B g (P + 10) w (n + 1) v w' := by
  obtain ⟨i0, hi, hz0, hz1, hz2⟩ := info_parts Tryz.info_u8
  have hgl := h.lt
  have hBg := h.1
  have HWF := hidden hwf
  have HN := hidden hn
  have HC := hidden (fun (j : Nat) (u : Value) (hu : (l.map (Value.int .u8))[j]? = some u) => show (w.alloc (.cells #[] 5)).cell? ((⟨b, off, none⟩ : Addr).add j) = some u from by
    have e : (⟨b, off, none⟩ : Addr).add j = ⟨b, off + j, none⟩ := by unfold Addr.add; split <;> simp_all
    rw [e, World.cell?_alloc_lt _ _ _ (by exact hb)]
    exact hc j u hu)
  have HO := hidden (World.ownsRow_lit (base := w.heap.size) (e := 5) (size := 1) w #[] 0 (Nat.le_refl _) (by unfold maxLen; omega) rfl)
  have HR := hidden h
  have hb1 := hidden (show ∀ u ∈ l.map (Value.int .u8), u.oneCell' = true from fun u hu => by obtain ⟨x, _, rfl⟩ := List.mem_map.1 hu; rfl)
  clear hwf hc h hn
  go_enter Tryz.func45, Tryz.ntmps45
  go_wp2_with (at_builtin; refine wpList_append_own _ rfl _ _ 22 rfl w.heap.size 5 i0 (.int .u8 0) 1 1 Tryz.underlying22 hi hz0 hz1 hz2 rfl (by decide) _ 0 [] rfl HO.out ⟨b, off, none⟩ n cap (l.map (Value.int .u8)) rfl (by rw [List.length_map, ← HN.out]; omega) HC.out hb1.out (by unfold maxLen; omega) (by omega) (by simp) ?_)
  intro v w1 hown1 hg1 hnil
  have hown : w1.ownsRow w.heap.size 5 1 v l.length (l.map (Value.int .u8)) := by rw [← HN.out]; simpa using hown1
  have hr1 := (HR.out.alloc (.cells #[] 5)).grown hg1 (fun q hq => by have := (HO.out.lt q hq).1; exact ⟨by omega, by omega⟩)
  have hG1 : w.grownBy w1 (some g) := only_own (only_alloc (World.grownBy.refl w (some g)) _) hg1 (fun q hq => (HO.out.lt q hq).1)
  have HO1 := hidden hown
  clear hown1 hg1 hown HO HC hb1 HR
  obtain ⟨vb, vc, rfl⟩ : ∃ vb vc, v = .slice (some ⟨vb, 0, none⟩) l.length vc := by
    rcases HO1.out.2 with ⟨e, _⟩ | ⟨q, c, _, e, _⟩
    · exact (hnil e).elim
    · exact ⟨q, c, e⟩
  obtain ⟨va', vc', hve, hvc, hvm, hvi⟩ := ints_of_own3 HO1.out HWF.out
  injection hve with hv1 _ hv3
  rw [← hv1] at hvi
  rw [← hv3] at hvc hvm
  have hvb : w.heap.size ≤ vb := (HO1.out.lt vb rfl).1
  clear hnil hv1 hv3
  rw [← HN.out] at hvc ⊢
  go_wp2_with fail
  refine (pick_any w1 B g P 3 hr1 (by omega) (by omega) (by omega)).mono ?_
  rintro e w2 ⟨x, rfl, x0, x1, hr2, hg2⟩
  have hG2 := only_trans hG1 hg2
  have HO2 := hidden (HO1.out.kept hg2 (.inr (fun e => by have := (HO1.out.lt g e).1; omega)))
  have hvi2 : Ints w2 .u8 w2.heap.size (some ⟨vb, 0, none⟩) l := (by
    obtain ⟨a', c', e, _, _, hi2⟩ := ints_of_own3 HO2.out HWF.out
    injection e with e _ _
    rw [e]; exact hi2)
  have HV2 := hidden hvi2
  clear HO1 hvi hg2 hr1 hG1 hvi2
  by_cases q0 : x = 0
  · have q0' : (x == 0) = true := by simp [q0]
    clear q0
    by_cases hz : n = 0
    · have hz' : ¬ (0 : Int) < (n : Int) := by omega
      go_wp2_with fail
      go_ret
      exact ⟨.slice (some ⟨vb, 0, none⟩) 0 vc, rfl, some ⟨vb, 0, none⟩, vc, l, by rw [← HN.out, hz], by rw [← HN.out]; omega, by rw [← HN.out]; exact hvc, hvm, HV2.out, hr2.mono (by omega), hG2⟩
    have hz' : (0 : Int) < (n : Int) := by omega
    go_wp2_with fail
    refine (pick_any w2 B g (P + 1) n hr2 (by omega) (by omega) (by omega)).mono ?_
    rintro e w3 ⟨k0, rfl, k00, k01, hr3, hg3⟩
    obtain ⟨k, rfl⟩ := Int.eq_ofNat_of_zero_le k00
    have hG3 := only_trans hG2 hg3
    have HO3 := hidden (HO2.out.kept hg3 (.inr (fun e => by have := (HO2.out.lt g e).1; omega)))
    have hkn : k < n := by omega
    have hki : (k : Int) < (n : Int) := by omega
    obtain ⟨y, hy⟩ : ∃ y, l.getD k 0 = y := ⟨_, rfl⟩
    have hyl : (l.map (Value.int .u8))[k]? = some (.int .u8 y) := by
      rw [List.getElem?_map, List.getElem?_eq_getElem (show k < l.length by have := HN.out; omega), ← hy, List.getD_eq_getElem?_getD, List.getElem?_eq_getElem (show k < l.length by have := HN.out; omega)]; rfl
    have hyw := wf_u8.mp (HWF.out y (by rw [← hy, List.getD_eq_getElem?_getD, List.getElem?_eq_getElem (show k < l.length by have := HN.out; omega)]; exact List.getElem_mem _))
    have HY := hidden (fun (W : World) (hW : W.ownsRow w.heap.size 5 1 (.slice (some ⟨vb, 0, none⟩) n vc) n (l.map (Value.int .u8))) => (hW.cellAt k (by omega)).trans hyl)
    have hJ0 : Hid (JBent w B g (P + 1 + 1) (.slice (some ⟨vb, 0, none⟩) n vc) n l 0 w3.drew fun _ => undef) := ⟨hr3, ⟨hG3.os, hG3.tape, hG3.output, hG3.size, hG3.block⟩, by rw [HN.out]; exact HO3.out⟩
    clear HO2 HO3 HV2 hr2 hg3 hG2 hG3 hr3 hyl hy
    go_upto_region 7 with fail
    refine wp_region_chain (m := 5) (js := [.quiet (.slice (some ⟨vb, 0, none⟩) n vc) 5, .quiet (.int .i64 k) 5, .quiet (.slice (some ⟨vb, 0, none⟩) n vc) 5, .quiet (.int .i64 k) 5, .quiet (.pointer (some ⟨vb, k, none⟩)) 5, .quiet (.int .u8 y) 4, .quiet (.pointer (some ⟨g, 0, none⟩)) 5, .chain 0, .chain 1, .chain 2, .chain 3, .quiet (.pointer (some ⟨vb, k, none⟩)) 5, .chain 4]) (by kernel_rfl) (JBent w B g (P + 1 + 1) (.slice (some ⟨vb, 0, none⟩) n vc) n l) (by kernel_rfl) (by kernel_rfl) ⟨fun _ => undef, hJ0.out⟩ (fun vals => ?_) ?_
    · show SeqW _ _ _ _ _ _ _
      iterate 4
        refine ⟨fun kk hkk W hW => ?_, ?_⟩
        · unfold Oper.wp
          simp [go_sem]
          try exact ⟨_, rfl, rfl⟩
        simp only [Act.put, pA, pB, pC]
      refine ⟨fun kk hkk W hW => ?_, ?_⟩
      · unfold Oper.wp
        simp [go_sem, hki]
        try exact ⟨_, rfl, rfl⟩
      simp only [Act.put, pA, pB, pC]
      refine ⟨fun kk hkk W hW => ?_, ?_⟩
      · have q := HY.out W (JBent.own hkk hW)
        unfold Oper.wp
        simp [go_sem, q]
        try exact ⟨_, rfl, rfl⟩
      simp only [Act.put, pA, pB, pC]
      refine ⟨fun kk hkk W hW => ?_, ?_⟩
      · unfold Oper.wp
        simp [go_sem]
        try exact ⟨_, rfl, rfl⟩
      simp only [Act.put, pA, pB, pC]
      refine ⟨fun W hW => ?_, ?_⟩
      · obtain ⟨j1, j2, j3⟩ := hW
        unfold Oper.wp
        simp [go_sem]
        refine (pick_any W B g (P + 1 + 1) 255 j1 (by omega) (by omega) (by omega)).mono ?_
        rintro e w' ⟨z, rfl, z0, z1, hr, hg⟩
        have hN : JBent w B g (P + 1 + 1) (.slice (some ⟨vb, 0, none⟩) n vc) n l 1 w' (upd vals 0 (.int .i64 z)) := ⟨⟨hr, only_trans j2 hg, j3.kept hg (.inr (fun e => by have := (j3.lt g e).1; omega))⟩, z, z0, z1, rfl⟩
        first | exact hN | exact ⟨_, rfl, hN⟩
      simp only [Act.put, pA, pB, pC]
      refine ⟨fun W hW => ?_, ?_⟩
      · obtain ⟨j1, z, z0, z1, hv⟩ := hW
        have hwz : IntKind.i64.wrap (1 + z) = 1 + z := IntWalk.i64_in _ (by omega)
        have hN : JBent w B g (P + 1 + 1) (.slice (some ⟨vb, 0, none⟩) n vc) n l 2 W (upd vals 1 (.int .i64 (1 + z))) := ⟨j1, 1 + z, by omega, by omega, rfl⟩
        unfold Oper.wp
        simp [go_sem, hv, hwz]
        first | exact hN | exact ⟨_, rfl, hN⟩
      simp only [Act.put, pA, pB, pC]
      refine ⟨fun W hW => ?_, ?_⟩
      · obtain ⟨j1, z, z0, z1, hv⟩ := hW
        have hwz : IntKind.u8.wrap z = z := by rw [IntKind.wrap_u8]; omega
        have hN : JBent w B g (P + 1 + 1) (.slice (some ⟨vb, 0, none⟩) n vc) n l 3 W (upd vals 2 (.int .u8 z)) := ⟨j1, z, by omega, by omega, rfl⟩
        unfold Oper.wp
        simp [go_sem, hv, hwz]
        first | exact hN | exact ⟨_, rfl, hN⟩
      simp only [Act.put, pA, pB, pC]
      refine ⟨fun W hW => ?_, ?_⟩
      · obtain ⟨j1, z, z0, z1, hv⟩ := hW
        have hN : JBent w B g (P + 1 + 1) (.slice (some ⟨vb, 0, none⟩) n vc) n l 4 W (upd vals 3 (.int .u8 (IntKind.u8.wrap (y + z)))) := ⟨j1, IntKind.u8.wrap (y + z), by rw [IntKind.wrap_u8]; omega, by rw [IntKind.wrap_u8]; omega, rfl⟩
        unfold Oper.wp
        simp [go_sem, hv]
        first | exact hN | exact ⟨_, rfl, hN⟩
      simp only [Act.put, pA, pB, pC]
      refine ⟨fun kk hkk W hW => ?_, ?_⟩
      · unfold Oper.wp
        simp [go_sem, hki]
        try exact ⟨_, rfl, rfl⟩
      simp only [Act.put, pA, pB, pC]
      refine ⟨fun W hW => ?_, trivial⟩
      obtain ⟨⟨j1, j2, j3⟩, z, z0, z1, hv⟩ := hW
      have c0 := HY.out W j3
      have f0 := j3.frozenAt k
      have hN : ∀ u, JBent w B g (P + 1 + 1) (.slice (some ⟨vb, 0, none⟩) n vc) n l 5 (W.setCell ⟨vb, k, none⟩ (.int .u8 z)) (upd vals 4 u) := fun u => by
        have hg : W.grownBy (W.setCell ⟨vb, k, none⟩ (.int .u8 z)) (some vb) := only_put' k _
        refine ⟨l.set k z, by rw [List.length_set]; exact HN.out.symm, fun x hx => ?_, j1.grown hg (fun q hq => by injection hq with hq; exact ⟨by omega, by omega⟩), only_own j2 hg (fun q hq => by injection hq with hq; omega), ?_⟩
        · rcases List.mem_or_eq_of_mem_set hx with hx | rfl
          · exact HWF.out x hx
          · exact wf_u8.mpr ⟨z0, by omega⟩
        · have := j3.stored k (.int .u8 z)
          rw [List.map_set]
          exact this.1
      clear j1 j2 j3
      unfold Oper.wp
      simp [go_sem, hv, c0, f0]
      first | exact hN _ | exact ⟨undef, hN _⟩ | exact ⟨_, rfl, hN _⟩
    · intro W vals hJ
      obtain ⟨l', hl', hwf', hr, hg, ho⟩ := hJ
      rw [← hl'] at ho
      obtain ⟨a', c', e, hc', hm', hi'⟩ := ints_of_own3 ho hwf'
      injection e with e1 _ e3
      rw [← e1] at hi'
      rw [← e3] at hc' hm'
      have HI' := hidden hi'
      have HG' := hidden hg
      clear ho hi' hg hJ0 HY e1 e3
      simp only [putAll, List.map_cons, List.map_nil, Job.val, Act.put, pA, pB, pC]
      go_wp2_with fail
      go_ret
      exact ⟨_, rfl, some ⟨vb, 0, none⟩, vc, l', (by rw [hl']; rfl), by omega, by omega, hm', HI'.out, hr.mono (by omega), HG'.out⟩
  have q0' : (x == 0) = false := by simpa using q0
  by_cases q1 : x = 1
  · have q1' : (x == 1) = true := by simp [q1]
    clear q0 q1
    go_wp2_with fail
    refine (pick_any w2 B g (P + 1) (n + 1) hr2 (by omega) (by omega) (by omega)).mono ?_
    rintro e w3 ⟨k0, rfl, k00, k01, hr3, hg3⟩
    obtain ⟨k, rfl⟩ := Int.eq_ofNat_of_zero_le k00
    have hG3 := hidden (only_trans hG2 hg3)
    have HO3 := hidden (HO2.out.kept hg3 (.inr (fun e => by have := (HO2.out.lt g e).1; omega)))
    have hvi3 : Ints w3 .u8 w3.heap.size (some ⟨vb, 0, none⟩) l := (by
      obtain ⟨a', c', e, _, _, hi3⟩ := ints_of_own3 HO3.out HWF.out
      injection e with e _ _
      rw [e]; exact hi3)
    have HI3 : Hid (Ints w3 .u8 w3.heap.size (some ⟨vb, 0, none⟩) (l.take k)) := ⟨fun x hx => HWF.out x (List.mem_of_mem_take hx), fun hlt => by
      rw [List.length_take] at hlt
      obtain ⟨b', o', e, hb', hc'⟩ := hvi3.2 (by omega)
      refine ⟨b', o', e, hb', fun i hi => ?_⟩
      rw [List.length_take] at hi
      have := hc' i (by omega)
      rw [this, List.getD_eq_getElem?_getD, List.getD_eq_getElem?_getD, List.getElem?_take, if_pos (by omega)]⟩
    have hkn : k ≤ n := by omega
    have hkc : k ≤ vc := by have := HN.out; omega
    have hki : (k : Int) ≤ (vc : Int) := by omega
    have hLT : Hid ((l.take k).length = k) := by show _ = _; rw [List.length_take, ← HN.out]; omega
    clear HO2 HO3 HV2 hr2 hg3 hG2 hvi3
    go_wp2_with fail
    go_ret
    exact ⟨_, rfl, some ⟨vb, 0, none⟩, vc, l.take k, (by rw [hLT.out]; rfl), by rw [hLT.out]; omega, by rw [hLT.out]; exact hkc, hvm, HI3.out, hr3.mono (by omega), hG3.out⟩
  have q1' : (x == 1) = false := by simpa using q1
  clear q0 q1
  go_wp2_with fail
  refine (pick_any w2 B g (P + 1) 256 hr2 (by omega) (by omega) (by omega)).mono ?_
  rintro e w3 ⟨z, rfl, z0, z1, hr3, hg3⟩
  have hwz : IntKind.u8.wrap z = z := by rw [IntKind.wrap_u8]; omega
  have hG3 := hidden (only_trans hG2 hg3)
  have HO3 := hidden ((HO2.out.kept hg3 (.inr (fun e => by have := (HO2.out.lt g e).1; omega))).alloc (.cells #[.int .u8 z] 5))
  have hs3 : w.heap.size ≤ w3.heap.size := hG3.out.size
  have HR3 := hidden (hr3.alloc (.cells #[.int .u8 z] 5))
  clear HO2 HV2 hr2 hg3 hG2 hr3
  rw [← HN.out] at HO3
  go_wp2_with (at_builtin; refine wpList_append_own _ rfl _ _ 22 rfl w.heap.size 5 i0 (.int .u8 0) 1 1 Tryz.underlying22 hi hz0 hz1 hz2 rfl (by decide) _ _ _ rfl HO3.out ⟨w3.heap.size, 0, none⟩ 1 1 [.int .u8 z] rfl rfl (fun t u ht => by
      match t, ht with
      | 0, ht => simp at ht; subst ht; simp [Addr.add]) (by intro u hu; simp at hu; subst hu; rfl) (by unfold maxLen; omega) (by omega) (by simp; omega) ?_)
  intro v4 w4 hown4 hg4 _
  have hown5 : w4.ownsRow w.heap.size 5 1 v4 (l ++ [z]).length ((l ++ [z]).map (Value.int .u8)) := by
    rw [List.length_append, ← HN.out, List.map_append]
    exact hown4
  obtain ⟨a5, c5, hv5, hc5, hm5, hi5⟩ := ints_of_own3 hown5 (fun x hx => by
    rcases List.mem_append.1 hx with hx | hx
    · exact HWF.out x hx
    · simp only [List.mem_singleton] at hx; subst hx; exact wf_u8.mpr ⟨z0, by omega⟩)
  have HV5 := hidden hv5
  have hr5 := HR3.out.grown hg4 (fun q hq => by have := (HO3.out.lt q hq).1; exact ⟨by omega, by omega⟩)
  have hG5 := hidden (only_own (only_alloc hG3.out _) hg4 (fun q hq => (HO3.out.lt q hq).1))
  clear hown4 hg4 hown5 hv5 HO3 HR3
  go_wp2
  go_ret
  exact ⟨_, rfl, a5, c5, l ++ [z], HV5.out, by rw [List.length_append, ← HN.out]; simp, hc5, hm5, hi5, hr5.mono (by omega), hG5.out⟩
open Go.RowKit
set_option maxRecDepth 100000 in
set_option maxHeartbeats 1000000 in
theorem drawReadObject_any (w : World) (a : Option Addr) (cap : Nat) (l : List Int) (h : Ints w .u8 w.heap.size a l) (hcap : l.length ≤ cap) (hlen : cap ≤ 9223372036854775807) :
    Calls Tryz.prog 15 #[.slice a l.length cap] w fun e w' => ∃ (b : Option Addr) (c : Nat) (t : List Int), e = .returned (.slice b t.length c) ∧ t.length ≤ 2001 ∧ t.length ≤ c ∧ c ≤ maxLen ∧ Ints w' .u8 w'.heap.size b t ∧ Below w.heap.size w w' := by
  go_enter Tryz.func15, Tryz.ntmps15
  go_wp2_with fail
  refine (l20Open_any w a cap l h hcap hlen).mono ?_
  rintro e w1 ⟨rfl, hr1, hb1⟩
  have HX := hidden (l20Object_any w1 w.heap.size w.heap.size 0 0 hr1 (by omega) (by omega) (by omega))
  have hlt := hr1.lt
  clear h hr1
  go_wp2_with fail
  refine HX.out.mono ?_
  clear HX
  rintro e w2 ⟨a1, a2, c1, c2, ss, ms, rfl, hs8, hm20, hsl, hsy, hsm, hr2, hg2⟩
  have hb2 := hb1.grown hg2 hb1.size (by intro q hq; injection hq with hq; omega)
  have hls : ∀ y ∈ ss, y.s.lens := fun y hy => (hsl.small y hy).fits'.lens
  have HP := hidden (writeObject'_at w2 w2.heap.size a1 a2 c1 c2 ss.length ms.length ss ms rfl rfl hsl.sects (syms_of_own hsy) (Nat.le_refl _) (by omega) (by omega) hls (fun x hx => (hsm x hx).fits.name))
  have hwf := hidden (writeObj_u8 ss ms (fun y hy => (hsl.small y hy).wf))
  have h10 := writeObj_short ss ms
  obtain ⟨t, ht⟩ : ∃ t, writeObj ss ms = t := ⟨_, rfl⟩
  rw [ht] at HP hwf h10
  obtain ⟨n, hn⟩ : ∃ n, t.length = n := ⟨_, rfl⟩
  rw [hn] at HP h10
  have HN := hidden hn
  have hlt2 := hr2.lt
  clear hg2 hb1 ht hn hsl hsy hsm hls
  go_wp2_with fail
  refine HP.out.mono ?_
  clear HP
  rintro e w3 ⟨v, rfl, hvn, hrow, hb3⟩
  have hrow' : w3.ownsRow w2.heap.size 5 1 v t.length (t.map (Value.int .u8)) := by rw [HN.out]; exact hrow
  obtain ⟨va, c, rfl, hc, hcm, hi3⟩ := ints_of_own3 hrow' hwf.out
  obtain ⟨q, rfl, hq1, hq2⟩ : ∃ q, va = some ⟨q, 0, none⟩ ∧ w2.heap.size ≤ q ∧ q < w3.heap.size := by
    rcases hrow'.2 with ⟨e, _⟩ | ⟨q, cap', cur, e, hge, hbl, _⟩
    · exact absurd e hvn
    · injection e with e
      exact ⟨q, e, hge, (Array.getElem?_eq_some_iff.1 hbl).1⟩
  have hr3 := hr2.below hb3 hlt2
  have hB3 := hb2.trans (hb3.mono hb2.size)
  have HI3 := hidden hi3
  rw [HN.out] at hc
  try rw [HN.out]
  clear hr2 hb2 hb3 hi3 hrow hrow' hvn
  go_wp2_with fail
  refine (odd_any w3 w.heap.size w.heap.size (0 + 2000) 3 hr3 (by omega) (by omega) (by omega)).mono ?_
  rintro e w4 ⟨b, rfl, hr4, hg4⟩
  have hB4 := hB3.grown hg4 hB3.size (by intro q hq; injection hq with hq; omega)
  have hlt3 := hr3.lt
  have hq4 : q < w4.heap.size := Nat.lt_of_lt_of_le hq2 hg4.size
  have hqg : q ≠ w.heap.size := by omega
  have hc4 : ∀ j u, (t.map (Value.int .u8))[j]? = some u → w4.cell? ⟨q, 0 + j, none⟩ = some u := fun j u hu => by
    rw [List.getElem?_map] at hu
    rcases hj : t[j]? with _ | y
    · rw [hj] at hu; cases hu
    · rw [hj] at hu
      injection hu with hu
      obtain ⟨hjl, hjy⟩ := List.getElem?_eq_some_iff.1 hj
      obtain ⟨b', o', e, _, hcc⟩ := HI3.out.2 (by omega)
      injection e with e; injection e with e1 e2; subst e1; subst e2
      have := hcc j hjl
      rw [List.getD_eq_getElem?_getD, hj, Option.getD_some] at this
      rw [World.cell?_of_block (hg4.block q hq2 (fun e => by injection e with e; exact hqg e)), ← hu]
      exact this
  have hi4 : Ints w4 .u8 w4.heap.size (some ⟨q, 0, none⟩) t := ⟨hwf.out, fun hn => ⟨q, 0, rfl, hq4, fun i hi => by
    have := hc4 i (.int .u8 (t.getD i 0)) (by rw [List.getElem?_map, List.getElem?_eq_getElem hi, List.getD_eq_getElem?_getD, List.getElem?_eq_getElem hi]; rfl)
    exact this⟩⟩
  have HI4 := hidden hi4
  have HBT := hidden (l20Bent_any w4 w.heap.size w.heap.size (0 + 2000 + 1) hr4 (by omega) q 0 c n t HN.out.symm (by omega) hwf.out hc4 hq4)
  clear hc4 hi4 HI3 hg4 hr3 hB3
  rcases b with _ | _
  · go_wp2_with fail
    go_ret
    exact ⟨some ⟨q, 0, none⟩, c, t, by rw [HN.out]; rfl, by rw [HN.out]; omega, by rw [HN.out]; omega, hcm, HI4.out, hB4⟩
  · go_wp2_with fail
    refine HBT.out.mono ?_
    clear HBT
    rintro e w5 ⟨v, rfl, a5, c5, l5, rfl, h51, h52, h53, hi5, hr5, hg5⟩
    have hB5 := hB4.grown hg5 hB4.size (by intro q hq; injection hq with hq; omega)
    have HI5 := hidden hi5
    clear hg5 hi5 hr5
    go_wp2_with fail
    go_ret
    exact ⟨a5, c5, l5, rfl, by omega, h52, h53, HI5.out, hB5⟩

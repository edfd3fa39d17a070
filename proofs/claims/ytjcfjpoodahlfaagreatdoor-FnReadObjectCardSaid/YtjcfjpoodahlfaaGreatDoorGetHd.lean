import Derived.Test.YtjcfjpoodahlfaaGreatDoorHead
import Derived.Test.YtjcfjpoodahlfaaGreatDoorRegionV
import Derived.Deep.Cut
import Derived.Deep.CutRange
import Derived.IntWalk
import Derived.Laws.ResultCell
namespace Go.Proofs.YtjcfjpoodahlfaaGreatDoor
open Go.RowKit
theorem results_cell_row3h {P : Program} {fn : Func} {p u : Tmp} {ty : TypeId} (h : fn.results = #[.cell p ty, .tmp u]) (tmps : Array Value) (w : World) (g : Nat) (t : TypeId) (cs : Array Value) (fr : Nat × Nat) (d : TypeDesc)
    (hp : tmps.getD p undef = .pointer (some ⟨g, 0, none⟩)) (hg : w.heap[g]? = some (.cells cs t fr))
    (hu : P.underlying ty = some d) (hd : (match d with | .struct _ | .array _ _ => true | _ => false) = true) (hi : (P.info? ty).map (·.size) = some cs.size) :
    (results fn tmps).run P w = .ok (.tuple #[.agg cs, tmps.getD u undef]) w := by
  rw [results_cell_tmp h, hp]
  simp [asAddr, run_loadVar_row w g t ty cs fr d hg hu hd hi, Result.andThen]
def hdAt (l : List Int) : Hd := ⟨l.getD 4 0, l.getD 5 0, l.getD 6 0, getVal l 7 2⟩
def isHd (l : List Int) : Bool := decide (10 ≤ l.length) && decide (l.take 10 = putHd (hdAt l))
def noHd : Hd := ⟨0, 0, 0, 0⟩
def getHd (l : List Int) : Hd := if isHd l then hdAt l else noHd
theorem isHd_no {l : List Int} (h10 : 10 ≤ l.length) {k : Nat} (hk : k < 10) (h : (putHd (hdAt l)).length ≤ k ∨ (putHd (hdAt l)).getD k 0 ≠ l.getD k 0) : isHd l = false := by
  unfold isHd
  rw [Bool.and_eq_false_iff]
  right
  simp only [decide_eq_false_iff_not]
  intro e
  rcases h with h | h
  · have := congrArg List.length e
    rw [List.length_take] at this
    omega
  · apply h
    rw [← e, List.getD_eq_getElem?_getD, List.getD_eq_getElem?_getD, List.getElem?_take, if_pos hk]
theorem isHd_yes {l : List Int} (h10 : 10 ≤ l.length) (h : (putHd (hdAt l)).length = 10) (h2 : ∀ j, j < 10 → (putHd (hdAt l)).getD j 0 = l.getD j 0) : isHd l = true := by
  unfold isHd
  rw [Bool.and_eq_true]
  refine ⟨by simpa using h10, ?_⟩
  simp only [decide_eq_true_eq]
  apply List.ext_getElem
  · rw [List.length_take]; omega
  · intro i h1 h3
    have hi : i < 10 := by rw [List.length_take] at h1; omega
    have := h2 i hi
    rw [List.getD_eq_getElem?_getD, List.getD_eq_getElem?_getD, List.getElem?_eq_getElem h3, List.getElem?_eq_getElem (show i < l.length by omega)] at this
    rw [List.getElem_take]
    simpa using this.symm
def JG (w1 : World) (x4 x5 x6 g : Int) : Nat → World → (Nat → Value) → Prop
  | 0, W, _ => W.heap.size = w1.heap.size ∧ Below w1.heap.size w1 W
  | 1, W, vals => vals 0 = .pointer (some ⟨w1.heap.size, 0, none⟩) ∧ Has W w1.heap.size 60 #[.int .i64 0, .int .i64 0, .int .i64 0, .int .i64 0] ∧ Below w1.heap.size w1 W
  | _, W, vals => vals 0 = .pointer (some ⟨w1.heap.size, 0, none⟩) ∧ Has W w1.heap.size 60 #[.int .i64 x4, .int .i64 x5, .int .i64 x6, .int .i64 g] ∧ Below w1.heap.size w1 W
theorem JG.below {w1 : World} {x4 x5 x6 g : Int} {k : Nat} {W : World} {vals : Nat → Value} (h : JG w1 x4 x5 x6 g k W vals) : Below w1.heap.size w1 W := by
  match k, h with
  | 0, h => exact h.2
  | 1, h => exact h.2.2
  | _ + 2, h => exact h.2.2
set_option maxRecDepth 100000 in
set_option maxHeartbeats 2000000 in
theorem getHeader'_any (w : World) (B : Nat) (a : Option Addr) (cap n : Nat) (l : List Int) (hn : n = l.length) (h : Ints w .u8 B a l) (hB : B ≤ w.heap.size) (hlen : n ≤ 9223372036854775807) :
    Calls Tryz.prog 46 #[.slice a n cap] w fun e w' => e = .returned (.tuple #[(getHd l).agg, .bool (isHd l)]) ∧ Below w.heap.size w w' := by
  go_enter Tryz.func46, Tryz.ntmps46
  have hres : Has (w.alloc (.cells #[.int .i64 0, .int .i64 0, .int .i64 0, .int .i64 0] 60)) w.heap.size 60 #[.int .i64 0, .int .i64 0, .int .i64 0, .int .i64 0] := Has.new _ _ _
  have hb1 : Below w.heap.size w (w.alloc (.cells #[.int .i64 0, .int .i64 0, .int .i64 0, .int .i64 0] 60)) := (Below.refl _ _).alloc (Nat.le_refl _) _
  by_cases hs : (n : Int) < 10
  · have HF := hidden (show isHd l = false by unfold isHd; rw [show decide (10 ≤ l.length) = false by simp; omega]; rfl)
    have c0 := hres.cell 0
    have c1 := hres.cell 1
    have c2 := hres.cell 2
    have c3 := hres.cell 3
    have f0 := hres.free 0
    have f1 := hres.free 1
    have f2 := hres.free 2
    have f3 := hres.free 3
    have HR := hidden hres
    clear hres
    go_wp2_with fail
    refine bodyPost_ret (results_cell_row3h rfl _ _ w.heap.size 60 #[.int .i64 0, .int .i64 0, .int .i64 0, .int .i64 0] (0, 0) _ rfl HR.out Tryz.underlying60 rfl (by kernel_rfl)) rfl ?_
    refine ⟨?_, hb1⟩
    have e : getHd l = noHd := by unfold getHd; rw [HF.out]; rfl
    rw [e, HF.out]
    rfl
  have HN := hidden hn
  have H := hidden h
  obtain ⟨b, off, rfl, hbB, hcs⟩ := h.2 (by omega)
  obtain ⟨x4, hx4⟩ : ∃ x, l.getD 4 0 = x := ⟨_, rfl⟩
  have HX4 := hidden hx4
  have hw4 := wf_u8.mp (h.1 x4 (by rw [← hx4, List.getD_eq_getElem?_getD, List.getElem?_eq_getElem (show 4 < l.length by omega)]; exact List.getElem_mem _))
  have h40 : 0 ≤ x4 := hw4.1
  have h41 : x4 < 256 := by have := hw4.2; omega
  have hr4 : IntKind.i64.wrap x4 = x4 := IntWalk.i64_in _ (by omega)
  obtain ⟨x5, hx5⟩ : ∃ x, l.getD 5 0 = x := ⟨_, rfl⟩
  have HX5 := hidden hx5
  have hw5 := wf_u8.mp (h.1 x5 (by rw [← hx5, List.getD_eq_getElem?_getD, List.getElem?_eq_getElem (show 5 < l.length by omega)]; exact List.getElem_mem _))
  have h50 : 0 ≤ x5 := hw5.1
  have h51 : x5 < 256 := by have := hw5.2; omega
  have hr5 : IntKind.i64.wrap x5 = x5 := IntWalk.i64_in _ (by omega)
  obtain ⟨x6, hx6⟩ : ∃ x, l.getD 6 0 = x := ⟨_, rfl⟩
  have HX6 := hidden hx6
  have hw6 := wf_u8.mp (h.1 x6 (by rw [← hx6, List.getD_eq_getElem?_getD, List.getElem?_eq_getElem (show 6 < l.length by omega)]; exact List.getElem_mem _))
  have h60 : 0 ≤ x6 := hw6.1
  have h61 : x6 < 256 := by have := hw6.2; omega
  have hr6 : IntKind.i64.wrap x6 = x6 := IntWalk.i64_in _ (by omega)
  obtain ⟨g, hg⟩ : ∃ q, getVal l 7 2 = q := ⟨_, rfl⟩
  obtain ⟨w1, hw1⟩ : ∃ q, w.alloc (.cells #[.int .i64 0, .int .i64 0, .int .i64 0, .int .i64 0] 60) = q := ⟨_, rfl⟩
  rw [hw1] at hres hb1
  have hBw : Hid (∀ W, Below w1.heap.size w1 W → Ints W .u8 B (some ⟨b, off, none⟩) l) := fun W hW => (h.below (hb1.mono hB)).below (hW.mono (Nat.le_trans hB hb1.size))
  have HC4 : Hid (∀ W, Below w1.heap.size w1 W → W.cell? ⟨b, off + 4, none⟩ = some (.int .u8 x4)) := fun W hW => by
    obtain ⟨b', off', e, _, hc⟩ := (hBw.out W hW).2 (by omega)
    injection e with e; injection e with e1 e2; subst e1; subst e2
    have := hc 4 (by omega)
    rwa [HX4.out] at this
  have HC5 : Hid (∀ W, Below w1.heap.size w1 W → W.cell? ⟨b, off + 5, none⟩ = some (.int .u8 x5)) := fun W hW => by
    obtain ⟨b', off', e, _, hc⟩ := (hBw.out W hW).2 (by omega)
    injection e with e; injection e with e1 e2; subst e1; subst e2
    have := hc 5 (by omega)
    rwa [HX5.out] at this
  have HC6 : Hid (∀ W, Below w1.heap.size w1 W → W.cell? ⟨b, off + 6, none⟩ = some (.int .u8 x6)) := fun W hW => by
    obtain ⟨b', off', e, _, hc⟩ := (hBw.out W hW).2 (by omega)
    injection e with e; injection e with e1 e2; subst e1; subst e2
    have := hc 6 (by omega)
    rwa [HX6.out] at this
  have HGN : Hid (∀ W, Below w1.heap.size w1 W → Calls Tryz.prog 48 #[.slice (some ⟨b, off, none⟩) n cap, .int .i64 7, .int .i64 2] W fun e w' => e = .returned (.int .i64 g) ∧ W = w') := fun W hW => by
    have := getNumber'_any W B (some ⟨b, off, none⟩) cap l (hBw.out W hW) (by omega) 7 2
    rwa [hg, ← HN.out] at this
  have HG := hidden hg
  have hJ0 : Hid (Below w1.heap.size w1 w1.drew) := (Below.refl _ _).drew
  clear hn h hx4 hx5 hx6 hw4 hw5 hw6 hcs hg
  go_upto_region 3 with fail
  try rw [hw1]
  refine wp_region_chain (m := 2) (js := [.quiet (.slice (some ⟨b, off, none⟩) n cap) 2, .quiet (.pointer (some ⟨b, off + 4, none⟩)) 2, .quiet (.int .u8 x4) 2, .quiet (.int .i64 x4) 2, .quiet (.slice (some ⟨b, off, none⟩) n cap) 2, .quiet (.pointer (some ⟨b, off + 5, none⟩)) 2, .quiet (.int .u8 x5) 2, .quiet (.int .i64 x5) 2, .quiet (.slice (some ⟨b, off, none⟩) n cap) 2, .quiet (.pointer (some ⟨b, off + 6, none⟩)) 2, .quiet (.int .u8 x6) 2, .quiet (.int .i64 x6) 2, .quiet (.slice (some ⟨b, off, none⟩) n cap) 2, .quiet (.int .i64 g) 2, .quiet (.agg #[.int .i64 x4, .int .i64 x5, .int .i64 x6, .int .i64 g]) 2, .chain 0, .chain 1]) (by kernel_rfl) (JG w1 x4 x5 x6 g) (by kernel_rfl) (by kernel_rfl) ⟨fun _ => undef, ⟨rfl, hJ0.out⟩⟩ (fun vals => ?_) ?_
  · show SeqW _ _ _ _ _ _ _
    refine ⟨fun k hk W hW => ?_, ?_⟩
    · unfold Oper.wp
      simp [go_sem]
      try exact ⟨_, rfl, rfl⟩
    simp only [Act.put, pA, pB, pC]
    refine ⟨fun k hk W hW => ?_, ?_⟩
    · have q : (4 : Int) < (n : Int) := by omega
      unfold Oper.wp
      simp [go_sem, q]
      try exact ⟨_, rfl, rfl⟩
    simp only [Act.put, pA, pB, pC]
    refine ⟨fun k hk W hW => ?_, ?_⟩
    · have q := HC4.out W (JG.below hW)
      unfold Oper.wp
      simp [go_sem, q]
      try exact ⟨_, rfl, rfl⟩
    simp only [Act.put, pA, pB, pC]
    refine ⟨fun k hk W hW => ?_, ?_⟩
    · unfold Oper.wp
      simp [go_sem, hr4]
      try exact ⟨_, rfl, rfl⟩
    simp only [Act.put, pA, pB, pC]
    refine ⟨fun k hk W hW => ?_, ?_⟩
    · unfold Oper.wp
      simp [go_sem]
      try exact ⟨_, rfl, rfl⟩
    simp only [Act.put, pA, pB, pC]
    refine ⟨fun k hk W hW => ?_, ?_⟩
    · have q : (5 : Int) < (n : Int) := by omega
      unfold Oper.wp
      simp [go_sem, q]
      try exact ⟨_, rfl, rfl⟩
    simp only [Act.put, pA, pB, pC]
    refine ⟨fun k hk W hW => ?_, ?_⟩
    · have q := HC5.out W (JG.below hW)
      unfold Oper.wp
      simp [go_sem, q]
      try exact ⟨_, rfl, rfl⟩
    simp only [Act.put, pA, pB, pC]
    refine ⟨fun k hk W hW => ?_, ?_⟩
    · unfold Oper.wp
      simp [go_sem, hr5]
      try exact ⟨_, rfl, rfl⟩
    simp only [Act.put, pA, pB, pC]
    refine ⟨fun k hk W hW => ?_, ?_⟩
    · unfold Oper.wp
      simp [go_sem]
      try exact ⟨_, rfl, rfl⟩
    simp only [Act.put, pA, pB, pC]
    refine ⟨fun k hk W hW => ?_, ?_⟩
    · have q : (6 : Int) < (n : Int) := by omega
      unfold Oper.wp
      simp [go_sem, q]
      try exact ⟨_, rfl, rfl⟩
    simp only [Act.put, pA, pB, pC]
    refine ⟨fun k hk W hW => ?_, ?_⟩
    · have q := HC6.out W (JG.below hW)
      unfold Oper.wp
      simp [go_sem, q]
      try exact ⟨_, rfl, rfl⟩
    simp only [Act.put, pA, pB, pC]
    refine ⟨fun k hk W hW => ?_, ?_⟩
    · unfold Oper.wp
      simp [go_sem, hr6]
      try exact ⟨_, rfl, rfl⟩
    simp only [Act.put, pA, pB, pC]
    refine ⟨fun k hk W hW => ?_, ?_⟩
    · unfold Oper.wp
      simp [go_sem]
      try exact ⟨_, rfl, rfl⟩
    simp only [Act.put, pA, pB, pC]
    refine ⟨fun k hk W hW => ?_, ?_⟩
    · unfold Oper.wp
      simp [go_sem]
      refine (HGN.out W (JG.below hW)).mono ?_
      rintro e _ ⟨rfl, rfl⟩
      first | exact rfl | exact ⟨rfl, rfl⟩ | exact ⟨_, rfl, rfl, rfl⟩
    simp only [Act.put, pA, pB, pC]
    refine ⟨fun k hk W hW => ?_, ?_⟩
    · unfold Oper.wp
      simp [go_sem]
      try exact ⟨_, rfl, rfl⟩
    simp only [Act.put, pA, pB, pC]
    refine ⟨fun W hW => ?_, ?_⟩
    · obtain ⟨hs0, hb0⟩ := hW
      have hN : JG w1 x4 x5 x6 g 1 (W.alloc (.cells #[.int .i64 0, .int .i64 0, .int .i64 0, .int .i64 0] 60)) (upd vals 0 (.pointer (some ⟨W.heap.size, 0, none⟩))) := ⟨by rw [hs0]; rfl, hs0 ▸ Has.new W _ _, hb0.alloc (by omega) _⟩
      unfold Oper.wp
      simp [go_sem]
      first | exact hN | exact ⟨_, rfl, hN⟩
    simp only [Act.put, pA, pB, pC]
    refine ⟨fun W hW => ?_, trivial⟩
    obtain ⟨hv, hh, hb0⟩ := hW
    have c0 := hh.cell 0
    have c1 := hh.cell 1
    have c2 := hh.cell 2
    have c3 := hh.cell 3
    have f0 := hh.free 0
    have f1 := hh.free 1
    have f2 := hh.free 2
    have f3 := hh.free 3
    have hN : ∀ u, JG w1 x4 x5 x6 g 2 ((((W.setCell ⟨w1.heap.size, 0, none⟩ (.int .i64 x4)).setCell ⟨w1.heap.size, 1, none⟩ (.int .i64 x5)).setCell ⟨w1.heap.size, 2, none⟩ (.int .i64 x6)).setCell ⟨w1.heap.size, 3, none⟩ (.int .i64 g)) (upd vals 1 u) := fun u =>
      ⟨hv, (((hh.put 0 _).put 1 _).put 2 _).put 3 _, hb0.grown (only_trans (only_trans (only_trans (only_put' (g := w1.heap.size) 0 _) (only_put' 1 _)) (only_put' 2 _)) (only_put' 3 _)) (by have := hh.lt; omega) (by intro q hq; injection hq with hq; omega)⟩
    clear hh hb0
    unfold Oper.wp
    simp [go_sem, hv, c0, c1, c2, c3, f0, f1, f2, f3]
    first | exact hN _ | exact ⟨undef, hN _⟩ | exact ⟨_, rfl, hN _⟩
  · intro W vals hJ
    obtain ⟨hv, hh, hb2⟩ := hJ
    simp only [putAll, List.map_cons, List.map_nil, Job.val, Act.put, pA, pB, pC]
    rw [hv]
    have hBW := hidden (hb1.trans (hb2.mono hb1.size))
    have HX := hidden hh
    have q0 : W.cell? ⟨w1.heap.size, 0, none⟩ = some (.int .i64 x4) := HX.out.cell 0
    have q1 : W.cell? ⟨w1.heap.size, 1, none⟩ = some (.int .i64 x5) := HX.out.cell 1
    have q2 : W.cell? ⟨w1.heap.size, 2, none⟩ = some (.int .i64 x6) := HX.out.cell 2
    have q3 : W.cell? ⟨w1.heap.size, 3, none⟩ = some (.int .i64 g) := HX.out.cell 3
    have HPH := hidden (putHeader'_any W ⟨x4, x5, x6, g⟩)
    unfold Hd.agg at HPH
    obtain ⟨t, ht⟩ : ∃ t, putHd ⟨x4, x5, x6, g⟩ = t := ⟨_, rfl⟩
    have ht10 : t.length ≤ 10 := by rw [← ht]; exact putHd_short _
    rw [ht] at HPH
    have HT := hidden ht
    obtain ⟨tn, htn⟩ : ∃ q, t.length = q := ⟨_, rfl⟩
    rw [htn] at HPH ht10
    have HTN := hidden htn
    have HI := hidden (hBw.out W hb2)
    have HRS := hidden (hres.below hb2 (by rw [← hw1]; simp))
    clear hh hv hb2 ht htn hBw HC4 HC5 HC6 HGN hJ0 hres
    go_wp2_with fail
    refine HPH.out.mono ?_
    clear HPH q0 q1 q2 q3
    rintro e w3 ⟨wa, wc, rfl, hwc, hwm, hwi, hb3⟩
    have hB3 := hidden (hBW.out.trans (hb3.mono hBW.out.size))
    have HI3 := hidden (HI.out.below (hb3.mono (Nat.le_trans hB hBW.out.size)))
    have HW3 := hidden hwi
    have HX3 := hidden (HX.out.below hb3 HX.out.lt)
    have HRS3 := hidden (HRS.out.below hb3 HRS.out.lt)
    clear hb3 hwi HI HX hBW HRS
    have HHD : Hid (hdAt l = ⟨x4, x5, x6, g⟩) := by show _ = _; unfold hdAt; rw [HX4.out, HX5.out, HX6.out, HG.out]
    have HNO : Hid (∀ k, k < 10 → (tn ≤ k ∨ t.getD k 0 ≠ l.getD k 0) → isHd l = false) := fun k hk h => by
      refine isHd_no (by have := HN.out; omega) hk ?_
      rw [HHD.out, HT.out]
      exact h.imp (fun h => by have := HTN.out; omega) id
    have HYES : Hid (tn = 10 → (∀ j, j < 10 → t.getD j 0 = l.getD j 0) → isHd l = true) := fun h1 h2 => by
      refine isHd_yes (by have := HN.out; omega) ?_ ?_
      · rw [HHD.out, HT.out]; exact HTN.out.trans h1
      · rw [HHD.out, HT.out]; exact h2
    go_wp2_with fail
    go_loopw [6] (fun i wr => ∃ (k p : Nat), i = .int .i64 k ∧ k ≤ 10 ∧ k ≤ tn ∧ Hid (∀ j, j < k → t.getD j 0 = l.getD j 0) ∧ wr = w3.drewN p) (fun i _ => 10 - (intOf i).toNat)
    case atStart => exact ⟨0, 0, rfl, Nat.zero_le _, Nat.zero_le _, hidden (fun j hj => absurd hj (by omega)), rfl⟩
    case round =>
      obtain ⟨k, p, rfl, hk, hkt, hall, rfl⟩ := hrel
      by_cases hlt : k < 10
      · have hi : (k : Int) < 10 := by omega
        have hkn : (k : Int) < (n : Int) := by omega
        by_cases hge : tn ≤ k
        · have hg1 : (tn : Int) ≤ (k : Int) := by omega
          have HF := hidden (HNO.out k hlt (.inl hge))
          clear hge hlt hkt hk
          have HRD := hidden (HRS3.out.drewN p)
          have c0 : ∀ m, (w3.drewN m).cell? ⟨w.heap.size, 0, none⟩ = some (.int .i64 0) := fun m => (HRS3.out.drewN m).cell 0
          have c1 : ∀ m, (w3.drewN m).cell? ⟨w.heap.size, 1, none⟩ = some (.int .i64 0) := fun m => (HRS3.out.drewN m).cell 1
          have c2 : ∀ m, (w3.drewN m).cell? ⟨w.heap.size, 2, none⟩ = some (.int .i64 0) := fun m => (HRS3.out.drewN m).cell 2
          have c3 : ∀ m, (w3.drewN m).cell? ⟨w.heap.size, 3, none⟩ = some (.int .i64 0) := fun m => (HRS3.out.drewN m).cell 3
          have f0 : ∀ m, (w3.drewN m).frozen? ⟨w.heap.size, 0, none⟩ = false := fun m => (HRS3.out.drewN m).free 0
          have f1 : ∀ m, (w3.drewN m).frozen? ⟨w.heap.size, 1, none⟩ = false := fun m => (HRS3.out.drewN m).free 1
          have f2 : ∀ m, (w3.drewN m).frozen? ⟨w.heap.size, 2, none⟩ = false := fun m => (HRS3.out.drewN m).free 2
          have f3 : ∀ m, (w3.drewN m).frozen? ⟨w.heap.size, 3, none⟩ = false := fun m => (HRS3.out.drewN m).free 3
          go_wp2_with fail
          go_quiet (fail)
          go_wp2_with fail
          have HFN : Has (((((w3.drewN (p + nq)).setCell ⟨w.heap.size, 0, none⟩ (.int .i64 0)).setCell ⟨w.heap.size, 1, none⟩ (.int .i64 0)).setCell ⟨w.heap.size, 2, none⟩ (.int .i64 0)).setCell ⟨w.heap.size, 3, none⟩ (.int .i64 0)) w.heap.size 60 #[.int .i64 0, .int .i64 0, .int .i64 0, .int .i64 0] := ((((HRS3.out.drewN _).put 0 _).put 1 _).put 2 _).put 3 _
          have HGW : (w3.drewN (p + nq)).grownBy (((((w3.drewN (p + nq)).setCell ⟨w.heap.size, 0, none⟩ (.int .i64 0)).setCell ⟨w.heap.size, 1, none⟩ (.int .i64 0)).setCell ⟨w.heap.size, 2, none⟩ (.int .i64 0)).setCell ⟨w.heap.size, 3, none⟩ (.int .i64 0)) (some w.heap.size) := only_trans (only_trans (only_trans (only_put' (g := w.heap.size) 0 _) (only_put' 1 _)) (only_put' 2 _)) (only_put' 3 _)
          refine bodyPost_ret (results_cell_row3h rfl _ _ w.heap.size 60 #[.int .i64 0, .int .i64 0, .int .i64 0, .int .i64 0] (0, 0) _ rfl HFN Tryz.underlying60 rfl (by kernel_rfl)) rfl ?_
          have hbd : Below w.heap.size w (w3.drewN (p + nq)) := below_drewN hB3.out _
          refine ⟨?_, hbd.grown HGW hbd.size (by intro q hq; injection hq with hq; omega)⟩
          have e : getHd l = noHd := by unfold getHd; rw [HF.out]; rfl
          rw [e, HF.out]
          rfl
        have hg1 : ¬ (tn : Int) ≤ (k : Int) := by omega
        have hg2 : (k : Int) < (tn : Int) := by omega
        obtain ⟨vb, vo, rfl, -, hvc⟩ := HW3.out.2 (by have := HTN.out; omega)
        obtain ⟨y, hy⟩ : ∃ y, t.getD k 0 = y := ⟨_, rfl⟩
        obtain ⟨x, hx⟩ : ∃ x, l.getD k 0 = x := ⟨_, rfl⟩
        have e1 : w3.cell? ⟨vb, vo + k, none⟩ = some (.int .u8 y) := by have := hvc k (by have := HTN.out; omega); rwa [hy] at this
        have e2 : w3.cell? ⟨b, off + k, none⟩ = some (.int .u8 x) := by
          obtain ⟨b', off', e, _, hc⟩ := HI3.out.2 (by have := HN.out; omega)
          injection e with e; injection e with e1 e2; subst e1; subst e2
          have := hc k (by have := HN.out; omega)
          rwa [hx] at this
        by_cases hxy : y = x
        · have hq : (y != x) = false := by simp [hxy]
          have hall2 : Hid (∀ j, j < k + 1 → t.getD j 0 = l.getD j 0) := fun j hj => by
            rcases Nat.lt_succ_iff_lt_or_eq.1 hj with h | h
            · exact hall.out j h
            · rw [h, hy, hx, hxy]
          clear hxy hvc hy hx
          have HKT : Hid (k < tn) := by show _ < _; omega
          have HLT := hidden hlt
          clear hlt hkt hk
          go_wp2_with fail
          go_quiet (fail)
          go_wp2_with fail
          go_roundw
          case rel => exact ⟨k + 1, _, by go_num, HLT.out, HKT.out, hall2, rfl⟩
          case measure => have := HLT.out; simp [intOf]; omega
        · have hq : (y != x) = true := by simp [hxy]
          have HF := hidden (HNO.out k hlt (.inr (by rw [hy, hx]; exact hxy)))
          clear hxy hvc hy hx hlt hkt hk
          have HRD := hidden (HRS3.out.drewN p)
          have c0 : ∀ m, (w3.drewN m).cell? ⟨w.heap.size, 0, none⟩ = some (.int .i64 0) := fun m => (HRS3.out.drewN m).cell 0
          have c1 : ∀ m, (w3.drewN m).cell? ⟨w.heap.size, 1, none⟩ = some (.int .i64 0) := fun m => (HRS3.out.drewN m).cell 1
          have c2 : ∀ m, (w3.drewN m).cell? ⟨w.heap.size, 2, none⟩ = some (.int .i64 0) := fun m => (HRS3.out.drewN m).cell 2
          have c3 : ∀ m, (w3.drewN m).cell? ⟨w.heap.size, 3, none⟩ = some (.int .i64 0) := fun m => (HRS3.out.drewN m).cell 3
          have f0 : ∀ m, (w3.drewN m).frozen? ⟨w.heap.size, 0, none⟩ = false := fun m => (HRS3.out.drewN m).free 0
          have f1 : ∀ m, (w3.drewN m).frozen? ⟨w.heap.size, 1, none⟩ = false := fun m => (HRS3.out.drewN m).free 1
          have f2 : ∀ m, (w3.drewN m).frozen? ⟨w.heap.size, 2, none⟩ = false := fun m => (HRS3.out.drewN m).free 2
          have f3 : ∀ m, (w3.drewN m).frozen? ⟨w.heap.size, 3, none⟩ = false := fun m => (HRS3.out.drewN m).free 3
          go_wp2_with fail
          go_quiet (fail)
          go_wp2_with fail
          have HFN : Has (((((w3.drewN (p + nq)).setCell ⟨w.heap.size, 0, none⟩ (.int .i64 0)).setCell ⟨w.heap.size, 1, none⟩ (.int .i64 0)).setCell ⟨w.heap.size, 2, none⟩ (.int .i64 0)).setCell ⟨w.heap.size, 3, none⟩ (.int .i64 0)) w.heap.size 60 #[.int .i64 0, .int .i64 0, .int .i64 0, .int .i64 0] := ((((HRS3.out.drewN _).put 0 _).put 1 _).put 2 _).put 3 _
          have HGW : (w3.drewN (p + nq)).grownBy (((((w3.drewN (p + nq)).setCell ⟨w.heap.size, 0, none⟩ (.int .i64 0)).setCell ⟨w.heap.size, 1, none⟩ (.int .i64 0)).setCell ⟨w.heap.size, 2, none⟩ (.int .i64 0)).setCell ⟨w.heap.size, 3, none⟩ (.int .i64 0)) (some w.heap.size) := only_trans (only_trans (only_trans (only_put' (g := w.heap.size) 0 _) (only_put' 1 _)) (only_put' 2 _)) (only_put' 3 _)
          refine bodyPost_ret (results_cell_row3h rfl _ _ w.heap.size 60 #[.int .i64 0, .int .i64 0, .int .i64 0, .int .i64 0] (0, 0) _ rfl HFN Tryz.underlying60 rfl (by kernel_rfl)) rfl ?_
          have hbd : Below w.heap.size w (w3.drewN (p + nq)) := below_drewN hB3.out _
          refine ⟨?_, hbd.grown HGW hbd.size (by intro q hq; injection hq with hq; omega)⟩
          have e : getHd l = noHd := by unfold getHd; rw [HF.out]; rfl
          rw [e, HF.out]
          rfl
      · have hi : ¬ (k : Int) < 10 := by omega
        have hk10 : k = 10 := by omega
        have HF := hidden (HYES.out (by omega) (by rw [hk10] at hall; exact hall.out))
        have HRD := hidden (HRS3.out.drewN p)
        have HXD := hidden (HX3.out.drewN p)
        have hne : w.heap.size ≠ w1.heap.size := by rw [← hw1]; simp
        have c0 := HRD.out.cell 0
        have c1 := HRD.out.cell 1
        have c2 := HRD.out.cell 2
        have c3 := HRD.out.cell 3
        have f0 := HRD.out.free 0
        have f1 := HRD.out.free 1
        have f2 := HRD.out.free 2
        have f3 := HRD.out.free 3
        have q0 : (w3.drewN p).cell? ⟨w1.heap.size, 0, none⟩ = some (.int .i64 x4) := HXD.out.cell 0
        have q1 : (w3.drewN p).cell? ⟨w1.heap.size, 1, none⟩ = some (.int .i64 x5) := HXD.out.cell 1
        have q2 : (w3.drewN p).cell? ⟨w1.heap.size, 2, none⟩ = some (.int .i64 x6) := HXD.out.cell 2
        have q3 : (w3.drewN p).cell? ⟨w1.heap.size, 3, none⟩ = some (.int .i64 g) := HXD.out.cell 3
        clear hk10 hall hlt hk hkt
        go_wp2_with fail
        have HFN : Has (((((w3.drewN p).setCell ⟨w.heap.size, 0, none⟩ (.int .i64 x4)).setCell ⟨w.heap.size, 1, none⟩ (.int .i64 x5)).setCell ⟨w.heap.size, 2, none⟩ (.int .i64 x6)).setCell ⟨w.heap.size, 3, none⟩ (.int .i64 g)) w.heap.size 60 #[.int .i64 x4, .int .i64 x5, .int .i64 x6, .int .i64 g] := (((HRD.out.put 0 _).put 1 _).put 2 _).put 3 _
        have HGW : (w3.drewN p).grownBy (((((w3.drewN p).setCell ⟨w.heap.size, 0, none⟩ (.int .i64 x4)).setCell ⟨w.heap.size, 1, none⟩ (.int .i64 x5)).setCell ⟨w.heap.size, 2, none⟩ (.int .i64 x6)).setCell ⟨w.heap.size, 3, none⟩ (.int .i64 g)) (some w.heap.size) := only_trans (only_trans (only_trans (only_put' (g := w.heap.size) 0 _) (only_put' 1 _)) (only_put' 2 _)) (only_put' 3 _)
        refine bodyPost_ret (results_cell_row3h rfl _ _ w.heap.size 60 #[.int .i64 x4, .int .i64 x5, .int .i64 x6, .int .i64 g] (0, 0) _ rfl HFN Tryz.underlying60 rfl (by kernel_rfl)) rfl ?_
        have hbd : Below w.heap.size w (w3.drewN p) := below_drewN hB3.out _
        refine ⟨?_, hbd.grown HGW hbd.size (by intro q hq; injection hq with hq; omega)⟩
        have e : getHd l = ⟨x4, x5, x6, g⟩ := by unfold getHd; rw [HF.out, if_pos rfl, HHD.out]
        rw [e, HF.out]
        rfl

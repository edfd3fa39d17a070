/-
  impl.PlaceSections and impl.KindEnds.
-/
import Derived.Test.YtiocchmlmcoieaaLayK
import Derived.Test.YtiocchmlmcoieaaLayE
import Derived.Test.YtiocchmlmcoieaaDrC
namespace Go.Proofs.Ytiocchmlmcoieaa
open Go.RowKit

theorem baseValid_any (w : World) (base : Int) : Calls Try.prog 55 #[.int .i64 base] w fun e w' => e = .returned (.bool (decide (0 ≤ base ∧ base ≤ 4096 ∧ base % 8 = 0))) ∧ w = w' := by
  by_cases b0 : base < 0
  · have hd : ¬ (0 : Int) ≤ base := by omega
    have hr : decide (0 ≤ base ∧ base ≤ 4096 ∧ base % 8 = 0) = false := decide_eq_false (by omega)
    rw [hr]
    clear hr
    go_enter Try.func55, Try.ntmps55
    go_wp2_with fail
    go_ret
    exact ⟨rfl, rfl⟩
  by_cases b1 : 4096 < base
  · have hd : (0 : Int) ≤ base := by omega
    have hd2 : ¬ base ≤ 4096 := by omega
    have hr : decide (0 ≤ base ∧ base ≤ 4096 ∧ base % 8 = 0) = false := decide_eq_false (by omega)
    rw [hr]
    clear hr b0 b1
    go_enter Try.func55, Try.ntmps55
    go_wp2_with fail
    go_ret
    exact ⟨rfl, rfl⟩
  have hd : (0 : Int) ≤ base := by omega
  have hd2 : base ≤ 4096 := by omega
  have ht : base.tmod 8 = base % 8 := Int.tmod_eq_emod_of_nonneg hd
  by_cases b8 : base % 8 = 0
  · have hr : decide (0 ≤ base ∧ base ≤ 4096 ∧ base % 8 = 0) = true := decide_eq_true (by omega)
    have HB8 : Hid ((base % 8 == 0) = true) := by show _ = _; rw [b8]; rfl
    rw [hr]
    clear hr b0 b1 ht b8
    go_enter Try.func55, Try.ntmps55
    go_wp2_with fail
    go_ret
    exact ⟨ret_bool HB8.out, rfl⟩
  · have hr : decide (0 ≤ base ∧ base ≤ 4096 ∧ base % 8 = 0) = false := decide_eq_false (by omega)
    have HB8 : Hid ((base % 8 == 0) = false) := by show _ = _; simpa using b8
    rw [hr]
    clear hr b0 b1 ht b8
    go_enter Try.func55, Try.ntmps55
    go_wp2_with fail
    go_ret
    exact ⟨ret_bool HB8.out, rfl⟩
/-- The first list of places is put behind the others. -/
theorem LO.first {W W' : World} {g lo : Nat} {vp : Value} {e : Int} {rs : List Rn} (h : LO W g lo vp (.slice none 0 0) e rs []) {x : Rn} (hx : Has W x.g 3 x.cells) (hlo : lo ≤ x.g) (hr1 : ∀ y ∈ rs, y.g ≠ x.g) {v' : Value} (hr : W'.ownsRow lo 39 1 v' (rs.length + 1) (rs.map Rn.val ++ [x.val])) (hg : W.grownBy W' vp.ownBlock) :
    Has W' g 60 #[vp, .slice none 0 0, .int .i64 e] ∧ LO (W'.setCell ⟨g, 0, none⟩ v') g lo v' (.slice none 0 0) e (rs ++ [x]) [] := by
  have ho : Has W' g 60 #[vp, .slice none 0 0, .int .i64 e] := h.obj.grown hg (h.obj.other h.pr.row (by decide))
  have hq := h.pr.app hx hlo hr1 hr hg
  refine ⟨ho, ho.put 0 _, hq.other ho (by decide) (by decide) (only_put' 0 _), Rw.nil0, ?_, by simp⟩
  rcases hv : v'.ownBlock with _ | q
  · exact .inl rfl
  · exact .inr (by simp [Value.ownBlock])
/-- Around a list of places that is made. -/
def JMk (R : World → Prop) (A : World) (q : Nat) (PE : World → Value → Prop) (ZE : World → Prop) : Nat → World → (Nat → Value) → Prop
  | 0, W, _ => R W ∧ W = A
  | 1, W, vals => R W ∧ W = A.alloc (.cells (madeCells #[Value.int .i64 0] q) 3) ∧ vals 0 = .slice (some ⟨A.heap.size, 0, none⟩) q q
  | 2, W, vals => R W ∧ W = (A.alloc (.cells (madeCells #[Value.int .i64 0] q) 3)).alloc (.cells #[.slice (some ⟨A.heap.size, 0, none⟩) q q] 39) ∧ vals 1 = .slice (some ⟨A.heap.size + 1, 0, none⟩) 1 1
  | 3, W, vals => R W ∧ PE W (vals 2)
  | _, W, _ => R W ∧ ZE W
theorem JMk.all {R : World → Prop} {A : World} {q : Nat} {PE : World → Value → Prop} {ZE : World → Prop} {k : Nat} {W : World} {vals : Nat → Value} (h : JMk R A q PE ZE k W vals) : R W := by
  match k, h with
  | 0, h => exact h.1
  | 1, h => exact h.1
  | 2, h => exact h.1
  | 3, h => exact h.1
  | k + 4, h => exact h.1
theorem JMk.low {R : World → Prop} {A : World} {q : Nat} {PE : World → Value → Prop} {ZE : World → Prop} {k : Nat} {W : World} {vals : Nat → Value} (h : JMk R A q PE ZE k W vals) (hk : k ≤ 2) : Below A.heap.size A W := by
  match k, h, hk with
  | 0, h, _ => rw [h.2]; exact Below.refl _ _
  | 1, h, _ => rw [h.2.1]; exact (Below.refl _ _).alloc (Nat.le_refl _) _
  | 2, h, _ => rw [h.2.1]; exact ((Below.refl _ _).alloc (Nat.le_refl _) _).alloc (by simp) _
def PMk (g k : Nat) (vp : Value) (base : Int) (X : World → Value → Prop) (W : World) (u : Value) : Prop :=
  ∃ (b9 : Option Addr) (d9 : Nat), u = .slice b9 (k + 1) d9 ∧ Has W g 60 #[vp, .slice none 0 0, .int .i64 base] ∧ X (W.setCell ⟨g, 0, none⟩ (.slice b9 (k + 1) d9)) (.slice b9 (k + 1) d9)
def ZMk (k : Nat) (X : World → Value → Prop) (W : World) : Prop := ∃ (b9 : Option Addr) (d9 : Nat), X W (.slice b9 (k + 1) d9)
theorem index3_0 (W : World) (v1 v2 v3 : Value) : Sem.run Try.prog (Instr.index 94 (.agg #[v1, v2, v3]) (.int .i64 0)) W = .ok v1 W := by kernel_rfl
theorem index3_1 (W : World) (v1 v2 v3 : Value) : Sem.run Try.prog (Instr.index 94 (.agg #[v1, v2, v3]) (.int .i64 1)) W = .ok v2 W := by kernel_rfl
theorem index3_2 (W : World) (v1 v2 v3 : Value) : Sem.run Try.prog (Instr.index 94 (.agg #[v1, v2, v3]) (.int .i64 2)) W = .ok v3 W := by kernel_rfl
theorem index3 (W : World) (vs : List Value) (hl : vs.length = 3) (v : Value) (m : Nat) (hm : m < 3) (hv : vs[m]? = some v) : Sem.run Try.prog (Instr.index 94 (.agg vs.toArray) (.int .i64 (m : Int))) W = .ok v W := by
  obtain ⟨v1, v2, v3, rfl⟩ : ∃ a b c, vs = [a, b, c] := by
    match vs, hl with
    | [a, b, c], _ => exact ⟨a, b, c, rfl⟩
  rcases (by omega : m = 0 ∨ m = 1 ∨ m = 2) with rfl | rfl | rfl
  · obtain rfl : v1 = v := by simpa using hv
    exact index3_0 W v1 v2 v3
  · obtain rfl : v2 = v := by simpa using hv
    exact index3_1 W v1 v2 v3
  · obtain rfl : v3 = v := by simpa using hv
    exact index3_2 W v1 v2 v3
/-- The layout that is answered. -/
def LaidE (w : World) (L : List Oj) (base : Int) (NP NE : Nat) (ok : Bool) (e : Ending) (w' : World) : Prop :=
  ∃ (pa ea : Option Addr) (pc ec : Nat) (rs es : List Rn), e = .returned (.tuple #[.agg #[.slice pa NP pc, .slice ea NE ec, .int .i64 (laidL L base).e], .bool ok]) ∧ Rw w' w.heap.size (.slice pa NP pc) rs ∧ Rw w' w.heap.size (.slice ea NE ec) es ∧ rs.map Rn.r = (laidL L base).pl ∧ es.map Rn.r = endsL L base ∧ Below w.heap.size w w'
set_option maxRecDepth 100000 in
set_option maxHeartbeats 8000000 in
theorem layoutOf_any (w : World) (B : Nat) (a : Option Addr) (c n : Nat) (L : List Oj) (base : Int) (hn : n = L.length) (h : Objs w B a L) (hB : B ≤ w.heap.size) (hlen : n ≤ 9223372036854775807) (hf : ∀ y ∈ L, y.fits) (NP NE : Nat) (hNP : (laidL L base).pl.length = NP) (hNE : (endsL L base).length = NE) :
    Calls Try.prog 33 #[.slice a n c, .int .i64 base] w (LaidE w L base NP NE (layOk L base)) := by
  have hZ : Has (w.alloc (.cells #[.slice none 0 0, .slice none 0 0, .int .i64 0] 60)) w.heap.size 60 #[.slice none 0 0, .slice none 0 0, .int .i64 0] := Has.new _ _ _
  have hb0 : Below w.heap.size w (w.alloc (.cells #[.slice none 0 0, .slice none 0 0, .int .i64 0] 60)) := (Below.refl _ _).alloc (Nat.le_refl _) _
  obtain ⟨w1, hw1⟩ : ∃ q, w.alloc (.cells #[.slice none 0 0, .slice none 0 0, .int .i64 0] 60) = q := ⟨_, rfl⟩
  rw [hw1] at hZ hb0
  have HOB := hidden (h.more hB)
  have HVA := hidden (objectsValid_any w1 w.heap.size a c n L hn ((h.more hB).below hb0) hb0.size hlen hf)
  obtain ⟨v, hv⟩ : ∃ q, validA (L.map Oj.o) = q := ⟨_, rfl⟩
  rw [hv] at HVA
  have HBV := hidden (fun W => baseValid_any W base)
  obtain ⟨bv, hbv⟩ : ∃ q, decide (0 ≤ base ∧ base ≤ 4096 ∧ base % 8 = 0) = q := ⟨_, rfl⟩
  rw [hbv] at HBV
  have HOK : Hid (layOk L base = (v && bv)) := by show _ = _; unfold layOk; rw [hv, hbv]
  have HV := hidden hv
  have HBVE := hidden hbv
  have HNP := hidden hNP
  have HNE := hidden hNE
  have HF := hidden hf
  have HN : Hid (L.length = n) := hn.symm
  have HW1 := hidden hw1
  have HZ := hidden hZ
  have HB0 := hidden hb0
  clear h hB hf hNP hNE hv hbv hw1 hn hZ hb0
  go_enter Try.func33, Try.ntmps33
  go_upto_region 1 with fail
  rw [HW1.out]
  clear HW1
  go_wp2_with fail
  refine HVA.out.mono ?_
  clear HVA
  rintro e w2 ⟨rfl, hb2⟩
  have HB2 := hidden (HB0.out.trans (hb2.mono HB0.out.size))
  have hz2 := HZ.out.below hb2 HZ.out.lt
  have HZ2 := hidden hz2
  clear hb2 HB0 HZ
  have hno : layOk L base = false → ∀ W, Has W w.heap.size 60 #[.slice none 0 0, .slice none 0 0, .int .i64 0] → Below w.heap.size w W → LaidE w L base NP NE (layOk L base) (.returned (.tuple #[.agg #[.slice none 0 0, .slice none 0 0, .int .i64 0], .bool false])) W := fun hf W hH hW => by
    have h1 := HNP.out
    have h2 := HNE.out
    have he : endsL L base = [] := by unfold endsL; rw [hf]; rfl
    rw [laid_no hf] at h1
    rw [he] at h2
    obtain rfl : NP = 0 := by rw [← h1]; rfl
    obtain rfl : NE = 0 := by rw [← h2]; rfl
    rw [hf]
    exact ⟨none, none, 0, 0, [], [], by rw [laid_no hf], Rw.nil0, Rw.nil0, by rw [laid_no hf]; rfl, by rw [he]; rfl, hW⟩
  have HNO := hidden hno
  clear hno
  have e0 : w2.cell? ⟨w.heap.size, 0, none⟩ = some (.slice none 0 0) := hz2.cell 0
  have e1 : w2.cell? ⟨w.heap.size, 1, none⟩ = some (.slice none 0 0) := hz2.cell 1
  have e2 : w2.cell? ⟨w.heap.size, 2, none⟩ = some (.int .i64 0) := hz2.cell 2
  have f0 : w2.frozen? ⟨w.heap.size, 0, none⟩ = false := hz2.free 0
  have f1 : w2.frozen? ⟨w.heap.size, 1, none⟩ = false := hz2.free 1
  have f2 : w2.frozen? ⟨w.heap.size, 2, none⟩ = false := hz2.free 2
  obtain ⟨W9, hW9⟩ : ∃ q, ((w2.setCell ⟨w.heap.size, 0, none⟩ (.slice none 0 0)).setCell ⟨w.heap.size, 1, none⟩ (.slice none 0 0)).setCell ⟨w.heap.size, 2, none⟩ (.int .i64 0) = q := ⟨_, rfl⟩
  have hH9 : Has W9 w.heap.size 60 #[.slice none 0 0, .slice none 0 0, .int .i64 0] := by rw [← hW9]; exact ((hz2.put 0 _).put 1 _).put 2 _
  have hb9 : Below w.heap.size w W9 := by rw [← hW9]; exact ((HB2.out.setCell (p := ⟨w.heap.size, 0, none⟩) (Nat.le_refl _) _).setCell (p := ⟨w.heap.size, 1, none⟩) (Nat.le_refl _) _).setCell (p := ⟨w.heap.size, 2, none⟩) (Nat.le_refl _) _
  have HW9 := hidden hW9
  have HH9 := hidden hH9
  have HB9 := hidden hb9
  clear hz2 hW9 hH9 hb9
  rcases v with _ | _
  · have HFN := hidden (HNO.out (by rw [HOK.out]; rfl) W9 HH9.out HB9.out)
    clear HNO HB2 HZ2
    go_wp2_with fail
    rw [HW9.out]
    refine bodyPost_ret (results_cell_row3 rfl _ _ w.heap.size 60 #[.slice none 0 0, .slice none 0 0, .int .i64 0] (0, 0) _ rfl HH9.out Try.underlying60 rfl (by kernel_rfl)) rfl ?_
    exact HFN.out
  rcases bv with _ | _
  · have HFN := hidden (HNO.out (by rw [HOK.out]; rfl) W9 HH9.out HB9.out)
    clear HNO HB2 HZ2
    go_wp2_with fail
    refine (HBV.out _).mono ?_
    rintro e w' ⟨rfl, rfl⟩
    go_wp2_with fail
    rw [HW9.out]
    refine bodyPost_ret (results_cell_row3 rfl _ _ w.heap.size 60 #[.slice none 0 0, .slice none 0 0, .int .i64 0] (0, 0) _ rfl HH9.out Try.underlying60 rfl (by kernel_rfl)) rfl ?_
    exact HFN.out
  clear e0 e1 e2 f0 f1 f2 HW9 HH9 HB9 HNO
  have hbb := of_decide_eq_true HBVE.out
  have hfine := fine_of HV.out hbb.1 hbb.2.1
  change Fine (secsOf L) base at hfine
  obtain ⟨Ss, hSs⟩ : ∃ q, secsOf L = q := ⟨_, rfl⟩
  have HSE := hidden hSs
  have HRES : Hid (laidL L base = layK Ss base 3) := by show _ = _; rw [laid_yes HOK.out, hSs]
  have HREE : Hid (endsL L base = endsK Ss base) := by show _ = _; unfold endsL; rw [if_pos (show layOk L base = true from HOK.out), hSs]
  rw [hSs] at hfine
  have HFI := hidden hfine
  have HSN : Hid (Ss.length = n) := by show _ = _; rw [← hSs]; unfold secsOf; rw [List.length_map]; exact HN.out
  have hn4 : n ≤ 4 := by have := hfine.few; have := HSN.out; omega
  have HAT : Hid (∀ k : Nat, k < n → ∃ b off y, a = some ⟨b, off, none⟩ ∧ L[k]? = some y ∧ Ss[k]? = some (y.l.map Sp.s) ∧ ∀ W, Below w.heap.size w W → (W.cell? ⟨b, off + k * 2, none⟩ = some (.slice y.a1 y.l.length y.c1) ∧ W.cell? ⟨b, off + k * 2 + 1, none⟩ = some (.slice y.a2 y.ms.length y.c2)) ∧ Sects W w.heap.size y.a1 y.l) := fun k hk => by
    have hkl : k < L.length := by rw [HN.out]; exact hk
    obtain ⟨b, off, ha, hb, p0, p1⟩ := HOB.out.at_ hkl
    have hy : L[k]? = some L[k] := List.getElem?_eq_getElem hkl
    refine ⟨b, off, L[k], ha, hy, ?_, fun W hW => ⟨⟨(hW.cell (by show b < _; exact hb)).trans p0, (hW.cell (by show b < _; exact hb)).trans p1⟩, (HOB.out.below hW).secs _ (List.mem_of_getElem? hy)⟩⟩
    rw [← hSs]
    unfold secsOf
    rw [List.getElem?_map, hy]
    rfl
  clear hfine hSs hbb
  -- the layout that is filled
  obtain ⟨lo1, hlo1⟩ : ∃ q, w.heap.size + 1 = q := ⟨_, rfl⟩
  have HLO1 := hidden hlo1
  have hLa : LO ((w2.alloc (.cells #[.slice none 0 0, .slice none 0 0, .int .i64 base] 60))) w2.heap.size lo1 (.slice none 0 0) (.slice none 0 0) base [] [] := ⟨Has.new _ _ _, Rw.nil0, Rw.nil0, .inl rfl, by simp⟩
  have hBa : Below w.heap.size w (w2.alloc (.cells #[.slice none 0 0, .slice none 0 0, .int .i64 base] 60)) := HB2.out.alloc HB2.out.size _
  have hZa := HZ2.out.alloc (.cells #[.slice none 0 0, .slice none 0 0, .int .i64 base] 60)
  have hg6 : w.heap.size < w2.heap.size := HZ2.out.lt
  obtain ⟨g6, hg6e⟩ : ∃ q, w2.heap.size = q := ⟨_, rfl⟩
  rw [hg6e] at hLa hg6
  have HLa := hidden hLa
  have HBa := hidden hBa
  have HZa := hidden hZa
  have HG6 := hidden hg6
  have hg6l : lo1 ≤ g6 := by omega
  have HG6L := hidden hg6l
  clear hLa hBa hZa hg6 HB2 HZ2 hlo1 hg6l
  go_wp2_with fail
  refine (HBV.out _).mono ?_
  clear HBV
  rintro e w' ⟨rfl, rfl⟩
  go_wp2_with fail
  go_loopw [24] (fun i wr => ∃ (k : Nat) (rs : List Rn) (pa : Option Addr) (pc : Nat), i = .int .i64 k ∧ k ≤ n ∧ Hid (LO wr g6 lo1 (.slice pa k pc) (.slice none 0 0) base rs []) ∧ Hid (Below w.heap.size w wr) ∧ Hid (rs.map Rn.r = (zerosL Ss).take k) ∧ Hid (Has wr w.heap.size 60 #[.slice none 0 0, .slice none 0 0, .int .i64 0])) (fun i _ => n - (intOf i).toNat)
  case atStart => exact ⟨0, [], none, 0, rfl, Nat.zero_le _, HLa, HBa, rfl, HZa⟩
  case round =>
    clear HLa HBa HZa
    obtain ⟨k, rs, pa, pc, rfl, hk, hL, hb, hrs, hz⟩ := hrel
    have hrk : Hid (rs.length = k) := by
      have := congrArg List.length hrs.out
      rw [List.length_map, List.length_take] at this
      unfold zerosL at this
      rw [List.length_map, HSN.out] at this
      show _ = _
      omega
    by_cases hlt : k < n
    · have hilt : (k : Int) < (n : Int) := by omega
      obtain ⟨b, off, y, rfl, hy, hss, hpp⟩ := HAT.out k hlt
      obtain ⟨⟨p0, p1⟩, _⟩ := hpp wr hb.out
      obtain ⟨q, hq⟩ : ∃ q, y.l.length = q := ⟨_, rfl⟩
      obtain ⟨qm, hqm⟩ : ∃ q, y.ms.length = q := ⟨_, rfl⟩
      rw [hq] at p0
      rw [hqm] at p1
      have hq8 : q ≤ 8 := by have := HFI.out.each _ (List.mem_of_getElem? hss); rw [List.length_map] at this; omega
      have hmk := fun W => run_make_row' (P := Try.prog) 39 3 (.int .i64 0) 8 Try.underlying39 Try.info_int rfl .i64 .i64 q (by omega) (by omega) W
      have HMK := hidden hmk
      have HZK : Hid ((zerosL Ss).take (k + 1) = (zerosL Ss).take k ++ [List.replicate q 0]) := by
        show _ = _
        have : (zerosL Ss)[k]? = some (List.replicate q 0) := by unfold zerosL; rw [List.getElem?_map, hss]; simp [hq]
        rw [List.take_add_one, this]
        rfl
      have hO2 : Has (wr.alloc (.cells #[.slice y.a1 q y.c1, .slice y.a2 qm y.c2] 29)) wr.heap.size 29 #[.slice y.a1 q y.c1, .slice y.a2 qm y.c2] := Has.new _ _ _
      have hL2 := hL.out.alloc (.cells #[.slice y.a1 q y.c1, .slice y.a2 qm y.c2] 29)
      have hb2 := hb.out.alloc hb.out.size (.cells #[.slice y.a1 q y.c1, .slice y.a2 qm y.c2] 29)
      have hz2 := hz.out.alloc (.cells #[.slice y.a1 q y.c1, .slice y.a2 qm y.c2] 29)
      obtain ⟨W2, hW2⟩ : ∃ q', wr.alloc (.cells #[.slice y.a1 q y.c1, .slice y.a2 qm y.c2] 29) = q' := ⟨_, rfl⟩
      obtain ⟨bo, hbo⟩ : ∃ q, wr.heap.size = q := ⟨_, rfl⟩
      rw [hW2, hbo] at hO2
      rw [hW2] at hL2 hb2 hz2
      have HW2 := hidden hW2
      have HBO := hidden hbo
      obtain ⟨X, hX⟩ : ∃ X : World → Value → Prop, X = fun W u => LO W g6 lo1 u (.slice none 0 0) base (rs ++ [⟨W2.drew.heap.size, List.replicate q 0⟩]) [] ∧ Below w.heap.size w W ∧ Has W w.heap.size 60 #[.slice none 0 0, .slice none 0 0, .int .i64 0] := ⟨_, rfl⟩
      have HX := hidden hX
      have hLd := hL2.drew
      have HC0 : Hid (∀ W', Below W2.drew.heap.size W2.drew W' → W'.cell? ⟨g6, 0, none⟩ = some (.slice pa k pc)) := fun W' hW' => (hLd.only hW').obj.cell 0
      have hsz2 : (W2.drew.alloc (.cells (madeCells #[Value.int .i64 0] q) 3)).heap.size = W2.drew.heap.size + 1 := by simp
      have hl4 : LO ((W2.drew.alloc (.cells (madeCells #[Value.int .i64 0] q) 3)).alloc (.cells #[.slice (some ⟨W2.drew.heap.size, 0, none⟩) q q] 39)) g6 lo1 (.slice pa k pc) (.slice none 0 0) base rs [] := (hLd.alloc _).alloc _
      have hbd : Below w.heap.size w W2.drew := hb2.drew
      have hb4 : Below w.heap.size w ((W2.drew.alloc (.cells (madeCells #[Value.int .i64 0] q) 3)).alloc (.cells #[.slice (some ⟨W2.drew.heap.size, 0, none⟩) q q] 39)) := (hbd.alloc hbd.size _).alloc (by rw [hsz2]; have := hbd.size; omega) _
      have hz4 : Has ((W2.drew.alloc (.cells (madeCells #[Value.int .i64 0] q) 3)).alloc (.cells #[.slice (some ⟨W2.drew.heap.size, 0, none⟩) q q] 39)) w.heap.size 60 #[.slice none 0 0, .slice none 0 0, .int .i64 0] := (hz2.drew.alloc _).alloc _
      have hx4 : Has ((W2.drew.alloc (.cells (madeCells #[Value.int .i64 0] q) 3)).alloc (.cells #[.slice (some ⟨W2.drew.heap.size, 0, none⟩) q q] 39)) W2.drew.heap.size 3 (madeCells #[Value.int .i64 0] q) := (Has.new _ _ _).alloc _
      have ho4 : Has ((W2.drew.alloc (.cells (madeCells #[Value.int .i64 0] q) 3)).alloc (.cells #[.slice (some ⟨W2.drew.heap.size, 0, none⟩) q q] 39)) bo 29 #[.slice y.a1 q y.c1, .slice y.a2 qm y.c2] := (hO2.drew.alloc _).alloc _
      have hnew4 : Has ((W2.drew.alloc (.cells (madeCells #[Value.int .i64 0] q) 3)).alloc (.cells #[.slice (some ⟨W2.drew.heap.size, 0, none⟩) q q] 39)) (W2.drew.heap.size + 1) 39 #[.slice (some ⟨W2.drew.heap.size, 0, none⟩) q q] := by
        have := Has.new (W2.drew.alloc (.cells (madeCells #[Value.int .i64 0] q) 3)) 39 #[.slice (some ⟨W2.drew.heap.size, 0, none⟩) q q]
        rw [hsz2] at this
        exact this
      have hr1 : ∀ z ∈ rs, z.g ≠ W2.drew.heap.size := fun z hz => Nat.ne_of_lt (hLd.pr.low z hz)
      obtain ⟨W4, hW4⟩ : ∃ q', (W2.drew.alloc (.cells (madeCells #[Value.int .i64 0] q) 3)).alloc (.cells #[.slice (some ⟨W2.drew.heap.size, 0, none⟩) q q] 39) = q' := ⟨_, rfl⟩
      rw [hW4] at hl4 hb4 hz4 hx4 ho4 hnew4
      have hge2 : lo1 ≤ W4.heap.size := Nat.le_of_lt (Nat.lt_of_le_of_lt HG6L.out hl4.obj.lt)
      have hgx : lo1 ≤ W2.drew.heap.size := Nat.le_of_lt (Nat.lt_of_le_of_lt HG6L.out hLd.obj.lt)
      have hrk' := hrk.out
      have HROW2 : Hid (W4.ownsRow lo1 39 1 (.slice pa k pc) k (rs.map Rn.val)) := by
        have := hl4.pr.row
        rwa [hrk'] at this
      have hval : (⟨W2.drew.heap.size, List.replicate q 0⟩ : Rn).val = .slice (some ⟨W2.drew.heap.size, 0, none⟩) q q := by unfold Rn.val; rw [List.length_replicate]
      have HEND : Hid (∀ (w' : World) (b9 : Option Addr) (d9 : Nat), w'.ownsRow lo1 39 1 (.slice b9 (k + 1) d9) (k + 1) (rs.map Rn.val ++ [.slice (some ⟨W2.drew.heap.size, 0, none⟩) q q]) → W4.grownBy w' (Value.slice pa k pc).ownBlock → Has w' bo 29 #[.slice y.a1 q y.c1, .slice y.a2 qm y.c2] ∧ PMk g6 k (.slice pa k pc) base X w' (.slice b9 (k + 1) d9)) := fun w' b9 d9 h2 h3 => by
        obtain ⟨q1, q2⟩ := hl4.first (x := ⟨W2.drew.heap.size, List.replicate q 0⟩) (by unfold Rn.cells; dsimp only; rw [← rep_int]; exact hx4) hgx hr1 (by rw [hrk', hval]; exact h2) h3
        refine ⟨ho4.grown h3 (ho4.other HROW2.out (by decide)), b9, d9, rfl, q1, ?_⟩
        rw [HX.out]
        have hz5 : Has w' w.heap.size 60 #[.slice none 0 0, .slice none 0 0, .int .i64 0] := hz4.grown h3 (hz4.other HROW2.out (by decide))
        exact ⟨q2, (hb4.grown h3 hb4.size (fun q hq => by have := (HROW2.out.lt q hq).1; have := HLO1.out; omega)).setCell (p := ⟨g6, 0, none⟩) (by show _ ≤ g6; have := HG6.out; omega) _, hz5.away (p := ⟨g6, 0, none⟩) (by show _ ≠ g6; have := HG6.out; omega) _⟩
      have HW4 := hidden hW4
      have HNEW4 := hidden hnew4
      have HGE2 := hidden hge2
      have HHO : Hid (Has W2.drew bo 29 #[.slice y.a1 q y.c1, .slice y.a2 qm y.c2]) := hO2.drew
      have HLT := hidden hlt
      clear hy hss hpp hq hqm hO2 hL2 hb2 hz2 hW2 hbo hX hLd hsz2 hl4 hbd hb4 hz4 hx4 ho4 hnew4 hr1 hW4 hge2 hgx hrk' hval hmk hlt hk hL hb hz
      go_upto_region 7 with fail
      rw [HW2.out, HBO.out]
      clear HW2 HBO p0 p1
      refine wp_region_chain (m := 4) (js := [.quiet (.pointer (some ⟨g6, 0, none⟩)) 4, .quiet (.slice pa k pc) 2, .quiet (.pointer (some ⟨bo, 0, none⟩)) 4, .quiet (.slice y.a1 q y.c1) 4, .quiet (.int .i64 (q : Int)) 4, .chain 0, .chain 1, .chain 2, .quiet (.pointer (some ⟨g6, 0, none⟩)) 4, .chain 3]) (by kernel_rfl) (JMk (fun W => Has W bo 29 #[.slice y.a1 q y.c1, .slice y.a2 qm y.c2]) W2.drew q (PMk g6 k (.slice pa k pc) base X) (ZMk k X)) (by kernel_rfl) (by kernel_rfl) ⟨fun _ => undef, (⟨HHO.out, rfl⟩ : _ ∧ _)⟩ (fun vals => ?_) ?_
      · show SeqW _ _ _ _ _ _ _
        refine ⟨fun kk hkk W hW => ?_, ?_⟩
        · unfold Oper.wp
          simp [go_sem]
          try exact ⟨_, rfl, rfl⟩
        simp only [Act.put, List.setIfInBounds_toArray, List.set_cons_succ, List.set_cons_zero]
        refine ⟨fun kk hkk W hW => ?_, ?_⟩
        · have q0 := HC0.out W (JMk.low hW hkk)
          unfold Oper.wp
          simp [go_sem, q0]
          try exact ⟨_, rfl, rfl⟩
        simp only [Act.put, List.setIfInBounds_toArray, List.set_cons_succ, List.set_cons_zero]
        refine ⟨fun kk hkk W hW => ?_, ?_⟩
        · unfold Oper.wp
          simp [go_sem]
          try exact ⟨_, rfl, rfl⟩
        simp only [Act.put, List.setIfInBounds_toArray, List.set_cons_succ, List.set_cons_zero]
        refine ⟨fun kk hkk W hW => ?_, ?_⟩
        · have q0 := (JMk.all hW).cell 0
          unfold Oper.wp
          simp [go_sem, q0]
          try exact ⟨_, rfl, rfl⟩
        simp only [Act.put, List.setIfInBounds_toArray, List.set_cons_succ, List.set_cons_zero]
        refine ⟨fun kk hkk W hW => ?_, ?_⟩
        · unfold Oper.wp
          simp [go_sem]
          try exact ⟨_, rfl, rfl⟩
        simp only [Act.put, List.setIfInBounds_toArray, List.set_cons_succ, List.set_cons_zero]
        refine ⟨fun W hW => ?_, ?_⟩
        · obtain ⟨hR, rfl⟩ := hW
          have hN : JMk (fun W => Has W bo 29 #[.slice y.a1 q y.c1, .slice y.a2 qm y.c2]) W2.drew q (PMk g6 k (.slice pa k pc) base X) (ZMk k X) 1 (W2.drew.alloc (.cells (madeCells #[Value.int .i64 0] q) 3)) (upd vals 0 (.slice (some ⟨W2.drew.heap.size, 0, none⟩) q q)) := ⟨hR.alloc _, rfl, rfl⟩
          have hm := HMK.out W2.drew
          unfold Oper.wp
          simp [go_sem, hm]
          first | exact hN | exact ⟨_, rfl, hN⟩
        simp only [Act.put, List.setIfInBounds_toArray, List.set_cons_succ, List.set_cons_zero]
        refine ⟨fun W hW => ?_, ?_⟩
        · obtain ⟨hR, rfl, hv⟩ := hW
          have hN : JMk (fun W => Has W bo 29 #[.slice y.a1 q y.c1, .slice y.a2 qm y.c2]) W2.drew q (PMk g6 k (.slice pa k pc) base X) (ZMk k X) 2 ((W2.drew.alloc (.cells (madeCells #[Value.int .i64 0] q) 3)).alloc (.cells #[.slice (some ⟨W2.drew.heap.size, 0, none⟩) q q] 39)) (upd vals 1 (.slice (some ⟨W2.drew.heap.size + 1, 0, none⟩) 1 1)) := ⟨hR.alloc _, rfl, rfl⟩
          rw [hv]
          unfold Oper.wp
          simp [go_sem]
          first | exact hN | exact ⟨_, rfl, hN⟩
        simp only [Act.put, List.setIfInBounds_toArray, List.set_cons_succ, List.set_cons_zero]
        refine ⟨fun W hW => ?_, ?_⟩
        · obtain ⟨hR, hWe, hv⟩ := hW
          rw [HW4.out] at hWe
          subst hWe
          refine wp_append_fresh _ _ 34 39 rfl _ 1 24 Try.info_ints Try.underlying34 rfl (by decide) (by decide) lo1 (.slice pa k pc) k (rs.map Rn.val) rfl HROW2.out (W2.drew.heap.size + 1) 0 1 1 [.slice (some ⟨W2.drew.heap.size, 0, none⟩) q q] hv rfl (by omega) (fun i u hu => by rw [Nat.zero_add, HNEW4.out.cell]; simpa using hu) (fun u hu => by rw [List.mem_singleton.1 hu]; rfl) (by omega) HGE2.out ?_
          intro v' w' h2 h3 _
          obtain ⟨b9, d9, rfl⟩ := own_shape h2
          exact ⟨_, rfl, (HEND.out w' b9 d9 h2 h3 : JMk (fun W => Has W bo 29 #[.slice y.a1 q y.c1, .slice y.a2 qm y.c2]) W2.drew q (PMk g6 k (.slice pa k pc) base X) (ZMk k X) 3 w' (upd vals 2 (.slice b9 (k + 1) d9)))⟩
        simp only [Act.put, List.setIfInBounds_toArray, List.set_cons_succ, List.set_cons_zero]
        refine ⟨fun kk hkk W hW => ?_, ?_⟩
        · unfold Oper.wp
          simp [go_sem]
          try exact ⟨_, rfl, rfl⟩
        simp only [Act.put, List.setIfInBounds_toArray, List.set_cons_succ, List.set_cons_zero]
        refine ⟨fun W hW => ?_, trivial⟩
        obtain ⟨hR, b9, d9, hv9, q1, q2⟩ := hW
        rw [hv9]
        have ck : W.cell? ⟨g6, 0, none⟩ = some (.slice pa k pc) := q1.cell 0
        have fk : W.frozen? ⟨g6, 0, none⟩ = false := q1.free 0
        have hN : ∀ u, JMk (fun W => Has W bo 29 #[.slice y.a1 q y.c1, .slice y.a2 qm y.c2]) W2.drew q (PMk g6 k (.slice pa k pc) base X) (ZMk k X) 4 (W.setCell ⟨g6, 0, none⟩ (.slice b9 (k + 1) d9)) (upd vals 3 u) := fun u => ⟨hR.away (p := ⟨g6, 0, none⟩) (hR.differ q1 (by decide)) _, b9, d9, q2⟩
        clear q1 q2 hR
        unfold Oper.wp
        simp [go_sem, ck, fk]
        first | exact hN _ | exact ⟨undef, hN _⟩ | exact ⟨_, rfl, hN _⟩
      · intro W vals hJ
        simp only [putAll, List.map_cons, List.map_nil, Job.val, Act.put, List.setIfInBounds_toArray, List.set_cons_succ, List.set_cons_zero]
        obtain ⟨_, b9, d9, hx9⟩ := hJ
        rw [HX.out] at hx9
        obtain ⟨hL9, hB9, hZ9⟩ := hx9
        have HRS : Hid ((rs ++ [(⟨W2.drew.heap.size, List.replicate q 0⟩ : Rn)]).map Rn.r = (zerosL Ss).take (k + 1)) := by
          show _ = _
          rw [HZK.out, List.map_append, hrs.out]
          rfl
        have HL9 := hidden hL9
        have HB9 := hidden hB9
        have HZ9 := hidden hZ9
        clear hL9 hB9 hZ9 HEND HROW2 HNEW4 HGE2 HW4 HX HHO HMK HZK HC0 hrs hrk
        go_wp2_with fail
        go_roundw
        case rel => exact ⟨k + 1, _, b9, d9, by go_num, HLT.out, HL9, HB9, HRS, HZ9⟩
        case measure => have := HLT.out; simp [intOf]; omega
    · have hilt : ¬ (k : Int) < (n : Int) := by omega
      have hkn : k = n := by omega
      have HKN := hidden hkn
      have HPL : Hid (rs.map Rn.r = (layK Ss base 0).pl) := by
        show _ = _
        rw [hrs.out, List.take_of_length_le (by unfold zerosL; rw [List.length_map, HSN.out]; omega)]
        rfl
      have HKB := hidden (sectionsByKind_any wr w.heap.size a c n L Ss base HSE.out HFI.out HN.out.symm (HOB.out.below hb.out) hb.out.size)
      unfold ByKind at HKB
      clear hlt hk hkn hrs hrk
      go_wp2_with fail
      refine HKB.out.mono ?_
      clear HKB
      rintro e w5 ⟨g7, vs, Ps, rfl, hK5, hb5, hPs⟩
      have HL0 := hidden (hL.out.only hb5)
      have HB0 := hidden (hb.out.trans (hb5.mono hb.out.size))
      have HZ0 := hidden (hz.out.below hb5 hz.out.lt)
      have HK5 := hidden hK5
      have HPS := hidden hPs
      have HWR : Hid (lo1 ≤ wr.heap.size) := Nat.le_of_lt (Nat.lt_of_le_of_lt HG6L.out hL.out.obj.lt)
      have HKE0 : Hid (KeepL w5 w5) := KeepL.refl _
      clear hK5 hb5 hPs hL hb hz
      go_wp2_with fail
      go_loopw [40] (fun i wr => ∃ (m : Nat) (E : Int) (rs es : List Rn) (ea : Option Addr) (ec : Nat), i = .int .i64 m ∧ m ≤ 3 ∧ Hid (LO wr g6 lo1 (.slice pa k pc) (.slice ea m ec) E rs es) ∧ Hid (Below w.heap.size w wr) ∧ Hid (rs.map Rn.r = (layK Ss base m).pl) ∧ Hid ((layK Ss base m).e = E) ∧ Hid (es.map Rn.r = (endsK Ss base).take m) ∧ Hid (Has wr w.heap.size 60 #[.slice none 0 0, .slice none 0 0, .int .i64 0]) ∧ Hid (KeepL w5 wr)) (fun i _ => 3 - (intOf i).toNat)
      case atStart => exact ⟨0, base, rs, [], none, 0, rfl, by omega, HL0, HB0, HPL, rfl, rfl, HZ0, HKE0⟩
      case round =>
        clear HL0 HB0 HZ0 HKE0 HPL
        obtain ⟨m, E, rs, es, ea, ec, rfl, hm, hL, hb, hpl, hE, hes, hz, hke⟩ := hrel
        have hen : es.length = m := by
          have := congrArg List.length hes.out
          rw [List.length_map, List.length_take] at this
          unfold endsK at this
          rw [List.length_map, List.length_range] at this
          omega
        have hln : rs.map (fun x => x.r.length) = Ss.map List.length := by
          have := congrArg (List.map List.length) hpl.out
          rw [List.map_map, layK_lens] at this
          exact this
        have hrl : rs.length = k := by
          have := congrArg List.length hln
          rw [List.length_map, List.length_map, HSN.out] at this
          rw [this]; exact HKN.out.symm
        by_cases hm3 : m < 3
        · have hi : (m : Int) < 3 := by omega
          obtain ⟨v, hv⟩ : ∃ v, vs[m]? = some v := ⟨_, List.getElem?_eq_getElem (by have := HK5.out.lenv; omega)⟩
          obtain ⟨P, hP⟩ : ∃ P, Ps[m]? = some P := ⟨_, List.getElem?_eq_getElem (by have := HK5.out.lenp; omega)⟩
          obtain ⟨hP1, hP2⟩ := HPS.out m P hP
          have hrow := hke.out.row (row_lower (HK5.out.rows m v P hv hP) HWR.out)
          obtain ⟨va, vc, hvv⟩ := own_shape hrow
          obtain ⟨np, hnp⟩ : ∃ q, P.length = q := ⟨_, rfl⟩
          rw [hnp] at hvv hrow
          subst hvv
          have hnp32 : np ≤ 1000 := by
            have h1 := congrArg List.length hP1
            rw [List.length_map] at h1
            have := HFI.out.few2 ((m : Int) + 1)
            omega
          obtain ⟨F, hF⟩ : ∃ q, upTo E 8 = q := ⟨_, rfl⟩
          have hy : (⟨rs.map Rn.r, F⟩ : Lo).run (P.map Pl.pk) = layK Ss base (m + 1) := by
            rw [hP1, hpl.out, ← hF, ← hE.out]
            rfl
          have hin : ∀ p ∈ P, inR (rs.map fun x => x.r.length) p.pk := fun p hp => by
            rw [hln]
            have hpk : p.pk ∈ P.map Pl.pk := List.mem_map_of_mem hp
            rw [hP1] at hpk
            exact (HFI.out.pk (kindL_mem.1 hpk).1).2.1
          have hS : ∀ p ∈ P, (Ints wr .u8 lo1 p.y.a1 p.y.s.bytes ∧ Fixs wr lo1 p.y.a2 p.y.s.fixs) ∧ p.y.s.fits ∧ 0 ≤ p.y.s.long ∧ p.y.s.long ≤ 48 := fun p hp => by
            obtain ⟨o, ho, hpo⟩ := hP2 p hp
            have hs := ((HOB.out.secs o ho).below hb.out).more (show w.heap.size ≤ lo1 by have := HLO1.out; omega)
            have hpk : p.pk ∈ P.map Pl.pk := List.mem_map_of_mem hp
            rw [hP1] at hpk
            have hok := (HFI.out.pk (kindL_mem.1 hpk).1).1
            exact ⟨⟨hs.bytes _ hpo, hs.fixs _ hpo⟩, (HF.out o ho).2.2.1 _ hpo, hok.2.1, hok.2.2⟩
          have HPK := hidden (placeKind_any wr lo1 g6 lo1 pa k pc ea m ec E rs es hL.out hen (Nat.le_refl _) HG6L.out (Nat.le_of_lt (Nat.lt_of_le_of_lt HG6L.out hL.out.obj.lt)) (by omega) va vc np P hnp hnp32 hrow hin hrl hS F hF _ hy)
          unfold PlacedK at HPK
          have HEN := hidden hen
          have HFE : Hid (upTo (layK Ss base m).e 8 = F) := by show _ = _; rw [hE.out]; exact hF
          have HM3 := hidden hm3
          have hix := fun W => index3 W vs HK5.out.lenv (.slice va np vc) m hm3 hv
          have HZW := hz
          have HBW := hb
          clear hv hP hP1 hP2 hrow hnp hF hy hin hS hen hln hrl hm hm3 hL hpl hE hb hz
          go_wp2_with fail
          refine HPK.out.mono ?_
          clear HPK
          rintro e w6 ⟨rfl, ea6, ec6, rs6, es6, hL6, hpl6, hes6, hb6, hk6⟩
          rw [HEN.out] at hL6
          have HL6 := hidden hL6
          have hlw : w.heap.size < lo1 := by have := HLO1.out; omega
          have HB6 := hidden (HBW.out.trans (hb6.mono (Nat.le_of_lt hlw)))
          have HKE6 := hidden (hke.out.trans hk6)
          have HPL6 := hidden hpl6
          have HZ6 := hidden (HZW.out.below hb6 hlw)
          have HES6 : Hid (es6.map Rn.r = (endsK Ss base).take (m + 1)) := by
            show _ = _
            rw [endsK_take Ss base HM3.out, hes6, hes.out, HFE.out]
          clear hL6 hpl6 hes6 hb6 hk6 hlw hix HEN HFE HZW HBW hes hke
          go_wp2_with fail
          go_roundw
          case rel => exact ⟨m + 1, _, rs6, es6, ea6, ec6, by go_num, HM3.out, HL6, HB6, HPL6, rfl, HES6, HZ6, HKE6⟩
          case measure => have := HM3.out; simp [intOf]; omega
        · have hi : ¬ (m : Int) < 3 := by omega
          have hm4 : m = 3 := by omega
          subst hm4
          have hLL := hL.out
          have c0 : wr.cell? ⟨g6, 0, none⟩ = some (.slice pa k pc) := hLL.obj.cell 0
          have c1 : wr.cell? ⟨g6, 1, none⟩ = some (.slice ea 3 ec) := hLL.obj.cell 1
          have c2 : wr.cell? ⟨g6, 2, none⟩ = some (.int .i64 E) := hLL.obj.cell 2
          have e0 : wr.cell? ⟨w.heap.size, 0, none⟩ = some (.slice none 0 0) := hz.out.cell 0
          have e1 : wr.cell? ⟨w.heap.size, 1, none⟩ = some (.slice none 0 0) := hz.out.cell 1
          have e2 : wr.cell? ⟨w.heap.size, 2, none⟩ = some (.int .i64 0) := hz.out.cell 2
          have f0 : wr.frozen? ⟨w.heap.size, 0, none⟩ = false := hz.out.free 0
          have f1 : wr.frozen? ⟨w.heap.size, 1, none⟩ = false := hz.out.free 1
          have f2 : wr.frozen? ⟨w.heap.size, 2, none⟩ = false := hz.out.free 2
          obtain ⟨W9, hW9⟩ : ∃ q, ((wr.setCell ⟨w.heap.size, 0, none⟩ (.slice pa k pc)).setCell ⟨w.heap.size, 1, none⟩ (.slice ea 3 ec)).setCell ⟨w.heap.size, 2, none⟩ (.int .i64 E) = q := ⟨_, rfl⟩
          have hH9 : Has W9 w.heap.size 60 #[.slice pa k pc, .slice ea 3 ec, .int .i64 E] := by rw [← hW9]; exact ((hz.out.put 0 _).put 1 _).put 2 _
          have hg9 : wr.grownBy W9 (some w.heap.size) := by rw [← hW9]; exact only_trans (only_trans (only_put' 0 _) (only_put' 1 _)) (only_put' 2 _)
          have hb9 : Below w.heap.size w W9 := hb.out.grown hg9 hb.out.size (by intro q hq; injection hq with hq; omega)
          have hlw : w.heap.size ≤ lo1 := by have := HLO1.out; omega
          have HFN : Hid (LaidE w L base NP NE (layOk L base) (.returned (.tuple #[.agg #[.slice pa k pc, .slice ea 3 ec, .int .i64 E], .bool true])) W9) := by
            have h1 := HNP.out
            have h2 := HNE.out
            rw [HRES.out] at h1
            rw [HREE.out] at h2
            have hk3 : (endsK Ss base).length = 3 := by unfold endsK; simp
            obtain rfl : NE = 3 := by omega
            have hkN : k = NP := by rw [← h1, ← hpl.out, List.length_map, hrl]
            subst hkN
            have hes3 := hes.out
            rw [List.take_of_length_le (by omega)] at hes3
            show LaidE _ _ _ _ _ _ _ _
            refine ⟨pa, ea, pc, ec, rs, es, by rw [HRES.out, HOK.out, hE.out]; rfl, (hLL.pr.other hz.out (by decide) (by decide) hg9).lower hlw, (hLL.er.other hz.out (by decide) (by decide) hg9).lower hlw, by rw [HRES.out]; exact hpl.out, by rw [HREE.out]; exact hes3, hb9⟩
          have HW9 := hidden hW9
          have HH9 := hidden hH9
          clear hen hln hrl hm3 hm hLL hW9 hH9 hg9 hb9 hlw hL hb hpl hE hes hz hke
          go_wp2_with fail
          rw [HW9.out]
          refine bodyPost_ret (results_cell_row3 rfl _ _ w.heap.size 60 #[.slice pa k pc, .slice ea 3 ec, .int .i64 E] (0, 0) _ rfl HH9.out Try.underlying60 rfl (by kernel_rfl)) rfl ?_
          exact HFN.out
set_option maxRecDepth 100000 in
set_option maxHeartbeats 4000000 in
theorem placeSections_any (w : World) (B : Nat) (a : Option Addr) (c n : Nat) (L : List Oj) (base : Int) (hn : n = L.length) (h : Objs w B a L) (hB : B ≤ w.heap.size) (hlen : n ≤ 9223372036854775807) (hf : ∀ y ∈ L, y.fits) (N : Nat) (hN : (laidL L base).pl.length = N) :
    Calls Try.prog 13 #[.slice a n c, .int .i64 base] w (PlacesE w (laidL L base) N (layOk L base)) := by
  obtain ⟨NE, hNE⟩ : ∃ q, (endsL L base).length = q := ⟨_, rfl⟩
  have HLY := hidden (layoutOf_any w B a c n L base hn h hB hlen hf N NE hN hNE)
  unfold LaidE at HLY
  obtain ⟨x, hx⟩ : ∃ q, laidL L base = q := ⟨_, rfl⟩
  obtain ⟨ok, hok⟩ : ∃ q, layOk L base = q := ⟨_, rfl⟩
  rw [hx, hok] at HLY
  rw [hx] at hN
  rw [hx, hok]
  obtain ⟨pl, E⟩ := x
  have HNN := hidden hN
  clear hn h hB hf hNE hx hok hN
  go_enter Try.func13, Try.ntmps13
  go_wp2_with fail
  refine HLY.out.mono ?_
  clear HLY
  rintro e w1 ⟨pa, ea, pc, ec, rs, es, rfl, hR, _, hpl, _, hb⟩
  have hb2 : Below w.heap.size w (w1.alloc (.cells #[.slice pa N pc, .slice ea NE ec, .int .i64 E] 60)) := hb.alloc hb.size _
  have HFN : Hid (∀ q, PlacesE w ⟨pl, E⟩ N ok (.returned (.tuple #[.slice pa N pc, .int .i64 E, .bool ok])) ((w1.alloc (.cells #[.slice pa N pc, .slice ea NE ec, .int .i64 E] 60)).drewN q)) := fun q => ⟨pa, pc, rfl, rs, hpl, HNN.out.symm, (hR.alloc _).drewN q, below_drewN hb2 q⟩
  clear hR hpl hb hb2
  go_wp2_with fail
  go_quiet (fail)
  go_wp2_with fail
  go_ret3
  exact HFN.out _
set_option maxRecDepth 100000 in
set_option maxHeartbeats 4000000 in
theorem kindEnds_any (w : World) (B : Nat) (a : Option Addr) (c n : Nat) (L : List Oj) (base : Int) (hn : n = L.length) (h : Objs w B a L) (hB : B ≤ w.heap.size) (hlen : n ≤ 9223372036854775807) (hf : ∀ y ∈ L, y.fits) (N : Nat) (hN : (endsL L base).length = N) :
    Calls Try.prog 18 #[.slice a n c, .int .i64 base] w (RowsE w (endsL L base) N) := by
  obtain ⟨NP, hNP⟩ : ∃ q, (laidL L base).pl.length = q := ⟨_, rfl⟩
  have HLY := hidden (layoutOf_any w B a c n L base hn h hB hlen hf NP N hNP hN)
  unfold LaidE at HLY
  obtain ⟨x, hx⟩ : ∃ q, laidL L base = q := ⟨_, rfl⟩
  obtain ⟨ok, hok⟩ : ∃ q, layOk L base = q := ⟨_, rfl⟩
  obtain ⟨el, hel⟩ : ∃ q, endsL L base = q := ⟨_, rfl⟩
  rw [hx, hok, hel] at HLY
  rw [hel] at hN ⊢
  obtain ⟨pl, E⟩ := x
  have HNN := hidden hN
  clear hn h hB hf hNP hx hok hN hel
  go_enter Try.func18, Try.ntmps18
  go_wp2_with fail
  refine HLY.out.mono ?_
  clear HLY
  rintro e w1 ⟨pa, ea, pc, ec, rs, es, rfl, _, hR, _, hel, hb⟩
  have hb2 : Below w.heap.size w (w1.alloc (.cells #[.slice pa NP pc, .slice ea N ec, .int .i64 E] 60)) := hb.alloc hb.size _
  have HFN : Hid (RowsE w el N (.returned (.slice ea N ec)) (w1.alloc (.cells #[.slice pa NP pc, .slice ea N ec, .int .i64 E] 60))) := ⟨ea, ec, rfl, es, hel, HNN.out.symm, hR.alloc _, hb2⟩
  clear hR hel hb hb2
  go_wp2_with fail
  go_ret
  exact HFN.out

end Go.Proofs.Ytiocchmlmcoieaa

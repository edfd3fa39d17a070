/-
  spec.l9Used and spec.l9Keep.
-/
import Derived.Test.YtjpclpjhigongaaStpP
import Derived.Test.YtjpclpjhigongaaCopS
import Derived.BigRegion
import Derived.RegionTactic
namespace Go.Proofs.Ytjpclpjhigongaa
open Go.RowKit









































































































theorem CpS.only {w W W' : World} {va vb vs vm : Value} {q : Nat} {L : List Sp} {ms : List Sm} (h : CpS w W va vb q vs vm L ms) (hb : Below W.heap.size W W') : CpS w W' va vb q vs vm L ms :=
  ⟨h.below.trans (hb.mono h.below.size), h.arg.below hb h.arg.lt, h.res.below hb h.res.lt, h.ob.only hb, h.far⟩
/-- What stands while an object's symbols are numbered anew: the object so far, and the row of numbers. -/
structure KpT (w W : World) (va vb : Value) (q : Nat) (vs vm : Value) (L : List Sp) (ms : List Sm) (tv : Value) (k : Nat) (ts : List Int) : Prop where
  cp : CpS w W va vb q vs vm L ms
  row : W.ownsRow w.heap.size 3 1 tv k (ts.map (Value.int .i64))
section
variable {w W W' : World} {va vb vs vm tv : Value} {q k : Nat} {L : List Sp} {ms : List Sm} {ts : List Int}
theorem KpT.only (h : KpT w W va vb q vs vm L ms tv k ts) (hb : Below W.heap.size W W') : KpT w W' va vb q vs vm L ms tv k ts :=
  ⟨h.cp.only hb, h.row.kept (grown_only hb) (Classical.em _)⟩
theorem KpT.alloc (h : KpT w W va vb q vs vm L ms tv k ts) (o : Obj) : KpT w (W.alloc o) va vb q vs vm L ms tv k ts := h.only ((Below.refl _ _).alloc (Nat.le_refl _) o)
theorem KpT.drew (h : KpT w W va vb q vs vm L ms tv k ts) : KpT w W.drew va vb q vs vm L ms tv k ts := h.only ⟨rfl, rfl, rfl, Nat.le_refl _, fun _ _ => rfl⟩
/-- A row of another type grows: numbers. -/
theorem CpS.rowI (h : CpS w W va vb q vs vm L ms) {base' n : Nat} {u : Value} {xs : List Value} (hu : W.ownsRow base' 3 1 u n xs) (hb' : w.heap.size ≤ base') (hg : W.grownBy W' u.ownBlock) : CpS w W' va vb q vs vm L ms :=
  ⟨h.below.grown hg h.below.size (fun q hq => Nat.le_trans hb' (hu.lt q hq).1), h.arg.grown hg (h.arg.other hu (by decide)), h.res.grown hg (h.res.other hu (by decide)),
   ⟨h.ob.obj.grown hg (h.ob.obj.other hu (by decide)), h.ob.secs.row' hu (by decide) (by decide) (by decide) hg, h.ob.syms.kept hg (rows_apart h.ob.syms hu (by decide))⟩, h.far⟩
/-- A symbol is put behind the others, and the list is stored. -/
theorem KpT.appM (h : KpT w W va vb q vs vm L ms tv k ts) {v' : Value} {m : Sm} (hg0 : W.grownBy W' vm.ownBlock)
    (hr : W'.ownsRow w.heap.size 59 4 v' (ms.length + 1) (flatM ms ++ [.string m.name, .int .i64 m.bind, .int .i64 m.loc, .int .i64 m.value])) :
    Below w.heap.size w W' ∧ Has W' w.heap.size 26 #[va, vb] ∧ Has W' q 26 #[vs, vm] ∧ KpT w (W'.setCell ⟨q, 1, none⟩ v') va vb q vs v' L (ms ++ [m]) tv k ts := by
  have hfar := h.cp.far
  obtain ⟨ho, hob⟩ := h.cp.ob.appM hg0 hr
  have hbw : Below w.heap.size w W' := h.cp.below.grown hg0 h.cp.below.size (fun b hb => (h.cp.ob.syms.lt b hb).1)
  have ha := h.cp.arg.grown hg0 (h.cp.arg.other h.cp.ob.syms (by decide))
  have hr2 := h.cp.res.grown hg0 (h.cp.res.other h.cp.ob.syms (by decide))
  have hrow := h.row.kept hg0 (rows_apart h.row h.cp.ob.syms (by decide))
  have hg : W'.grownBy (W'.setCell ⟨q, 1, none⟩ v') (some q) := only_put' 1 _
  exact ⟨hbw, ha, ho, ⟨hbw.grown hg hbw.size (by intro b hb; injection hb with hb; omega), ha.away (by show w.heap.size ≠ q; omega) _, hr2.away (by show w.heap.size + 1 ≠ q; omega) _, hob, hfar⟩, hrow.kept hg (row_apart hrow ho (by decide))⟩
/-- A fixup's symbol is changed in place. -/
theorem CpS.setTo (h : CpS w W va vb q vs vm L ms) {i j : Nat} {y : Sp} {f : Fx} (hk : L[i]? = some y) (hj : y.s.fixs[j]? = some f) :
    ∃ g, y.a2 = some ⟨g, 0, none⟩ ∧ w.heap.size ≤ g ∧ W.cell? ⟨g, j * 4 + 2, none⟩ = some (.int .i64 f.to) ∧ W.frozen? ⟨g, j * 4 + 2, none⟩ = false ∧ (∃ cs, Has W g 71 cs) ∧
      ∀ z, CpS w (W.setCell ⟨g, j * 4 + 2, none⟩ (.int .i64 z)) va vb q vs vm (L.set i (y.to j f z)) ms := by
  obtain ⟨g, h1, h2, _, h4, h5, ⟨cs, h6⟩, h7⟩ := h.ob.setTo hk hj
  refine ⟨g, h1, h2, h4, h5, ⟨cs, h6⟩, fun z => ?_⟩
  obtain ⟨h8, h9⟩ := h7 z
  exact ⟨h.below.grown h9 h.below.size (by intro b hb; injection hb with hb; omega), h.arg.away (h.arg.differ h6 (by decide)) _, h.res.away (h.res.differ h6 (by decide)) _, h8, h.far⟩
theorem KpT.setTo (h : KpT w W va vb q vs vm L ms tv k ts) {i j : Nat} {y : Sp} {f : Fx} (hk : L[i]? = some y) (hj : y.s.fixs[j]? = some f) :
    ∃ g, y.a2 = some ⟨g, 0, none⟩ ∧ W.cell? ⟨g, j * 4 + 2, none⟩ = some (.int .i64 f.to) ∧ W.frozen? ⟨g, j * 4 + 2, none⟩ = false ∧
      ∀ z, KpT w (W.setCell ⟨g, j * 4 + 2, none⟩ (.int .i64 z)) va vb q vs vm (L.set i (y.to j f z)) ms tv k ts := by
  obtain ⟨g, h1, _, h4, h5, ⟨cs, h6⟩, h7⟩ := h.cp.setTo hk hj
  have hg : ∀ z : Int, W.grownBy (W.setCell ⟨g, j * 4 + 2, none⟩ (.int .i64 z)) (some g) := fun z => only_put' _ _
  exact ⟨g, h1, h4, h5, fun z => ⟨h7 z, h.row.kept (hg z) (row_apart h.row h6 (by decide))⟩⟩
end
/-- Around a symbol that is put behind the others. -/
def JK (w : World) (va vb : Value) (q : Nat) (vs vm : Value) (L : List Sp) (ms : List Sm) (tv : Value) (kk : Nat) (ts : List Int) (m : Sm) (nm : Nat) : Nat → World → (Nat → Value) → Prop
  | 0, W, _ => KpT w W va vb q vs vm L ms tv kk ts
  | 1, W, vals => KpT w W va vb q vs vm L ms tv kk ts ∧ ∃ g, vals 0 = .slice (some ⟨g, 0, none⟩) 1 1 ∧ Has W g 59 #[.string m.name, .int .i64 m.bind, .int .i64 m.loc, .int .i64 m.value]
  | 2, W, vals => ∃ a c, vals 1 = .slice a (nm + 1) c ∧ Below w.heap.size w W ∧ Has W w.heap.size 26 #[va, vb] ∧ Has W q 26 #[vs, vm] ∧ KpT w (W.setCell ⟨q, 1, none⟩ (.slice a (nm + 1) c)) va vb q vs (.slice a (nm + 1) c) L (ms ++ [m]) tv kk ts
  | _, W, _ => ∃ a c, KpT w W va vb q vs (.slice a (nm + 1) c) L (ms ++ [m]) tv kk ts
theorem JK.arg {w : World} {va vb : Value} {q : Nat} {vs vm : Value} {L : List Sp} {ms : List Sm} {tv : Value} {kk : Nat} {ts : List Int} {m : Sm} {nm k : Nat} {W : World} {vals : Nat → Value} (h : JK w va vb q vs vm L ms tv kk ts m nm k W vals) : Below w.heap.size w W ∧ Has W w.heap.size 26 #[va, vb] := by
  match k, h with
  | 0, h => exact ⟨(KpT.cp h).below, (KpT.cp h).arg⟩
  | 1, h => exact ⟨(KpT.cp h.1).below, (KpT.cp h.1).arg⟩
  | 2, h => obtain ⟨_, _, _, h1, h2, _⟩ := h; exact ⟨h1, h2⟩
  | _ + 3, h => obtain ⟨_, _, h⟩ := h; exact ⟨(KpT.cp h).below, (KpT.cp h).arg⟩
theorem JK.obj {w : World} {va vb : Value} {q : Nat} {vs vm : Value} {L : List Sp} {ms : List Sm} {tv : Value} {kk : Nat} {ts : List Int} {m : Sm} {nm k : Nat} {W : World} {vals : Nat → Value} (h : JK w va vb q vs vm L ms tv kk ts m nm k W vals) (hk : k ≤ 1) : Has W q 26 #[vs, vm] := by
  match k, h, hk with
  | 0, h, _ => exact (KpT.cp h).ob.obj
  | 1, h, _ => exact (KpT.cp h.1).ob.obj
/-- The new numbers. -/
def tosL (keep : List Bool) (k : Nat) : List Int := (List.range k).map fun (i : Nat) => keptN keep (i : Int)
theorem tosL_next (keep : List Bool) (k : Nat) : tosL keep (k + 1) = tosL keep k ++ [keptN keep (k : Int)] := by unfold tosL; rw [List.range_succ, List.map_append]; rfl
theorem tosL_at (keep : List Bool) {k i : Nat} (h : i < k) : (tosL keep k)[i]? = some (keptN keep (i : Int)) := by unfold tosL; rw [List.getElem?_map, List.getElem?_range h]; rfl
theorem kept_many (keep : List Bool) (ms : List Sm) (h : keep.length = ms.length) {k : Nat} : keptN keep (k : Int) = (((keptL (keep.take k) (ms.take k)).length : Nat) : Int) := by
  unfold keptN
  rw [keptL_length _ _ (by rw [List.length_take, List.length_take, h]), Int.toNat_natCast]
theorem kept_next {keep : List Bool} {ms : List Sm} (h : keep.length = ms.length) {k : Nat} {b : Bool} {m : Sm} (hb : keep[k]? = some b) (hm : ms[k]? = some m) : keptL (keep.take (k + 1)) (ms.take (k + 1)) = keptL (keep.take k) (ms.take k) ++ if b then [m] else [] := by
  rw [take_next hb, take_next hm]
  exact keptL_snoc _ _ _ _ (by rw [List.length_take, List.length_take, h])
set_option maxRecDepth 100000 in
set_option maxHeartbeats 8000000 in
theorem l9Keep_any (w : World) (B : Nat) (a1 a2 : Option Addr) (c1 c2 n m : Nat) (l : List Sp) (ms : List Sm) (hn : n = l.length) (hm : m = ms.length) (h1 : Sects w B a1 l) (h2 : Syms w B a2 ms) (hB : B ≤ w.heap.size) (hlen : n ≤ 1048576) (hlem : m ≤ 1048576) (hl : ∀ y ∈ l, y.s.short)
    (keep : List Bool) (ka : Option Addr) (kc : Nat) (hkv : Vals w B ka (keep.map Value.bool)) (hkn : keep.length = m) (hto : ∀ y ∈ l, ∀ f ∈ y.s.fixs, 0 ≤ f.to ∧ f.to < m) :
    Calls Try.prog 35 #[.agg #[.slice a1 n c1, .slice a2 m c2], .slice ka m kc] w (AnsO w ((l.map Sp.s).map (fixTo (keptN keep)), keptL keep ms)) := by
  have hA : Has ((w.alloc (.cells #[.slice a1 n c1, .slice a2 m c2] 26)).alloc (.cells #[.slice none 0 0, .slice none 0 0] 26)) w.heap.size 26 #[.slice a1 n c1, .slice a2 m c2] := (Has.new _ _ _).alloc _
  have hBa : Below w.heap.size w ((w.alloc (.cells #[.slice a1 n c1, .slice a2 m c2] 26)).alloc (.cells #[.slice none 0 0, .slice none 0 0] 26)) := ((Below.refl _ _).alloc (Nat.le_refl _) _).alloc (by simp) _
  have hR : Has ((w.alloc (.cells #[.slice a1 n c1, .slice a2 m c2] 26)).alloc (.cells #[.slice none 0 0, .slice none 0 0] 26)) (w.heap.size + 1) 26 #[.slice none 0 0, .slice none 0 0] := by
    have := Has.new (w.alloc (.cells #[.slice a1 n c1, .slice a2 m c2] 26)) 26 #[.slice none 0 0, .slice none 0 0]
    simpa using this
  obtain ⟨W2, hW2⟩ : ∃ q, ((w.alloc (.cells #[.slice a1 n c1, .slice a2 m c2] 26)).alloc (.cells #[.slice none 0 0, .slice none 0 0] 26)) = q := ⟨_, rfl⟩
  rw [hW2] at hA hBa hR
  have HW2 := hidden hW2
  have HN := hidden hn
  have HM := hidden hm
  have H2 := hidden (h2.more hB)
  have HKV := hidden (hkv.more hB)
  have HKN := hidden hkn
  have HTO : Hid (∀ s ∈ l.map Sp.s, ∀ f ∈ s.fixs, 0 ≤ f.to ∧ f.to < m) := fun s hs f hf => by
    obtain ⟨y, hy, rfl⟩ := List.mem_map.1 hs
    exact hto y hy f hf
  have HCP := hidden (l4Copy_any W2 w.heap.size a1 a2 c1 c2 n m l ms hn hm ((h1.more hB).below hBa) ((h2.more hB).below hBa) hBa.size hlen hlem hl)
  have HSH : Hid (∀ s ∈ l.map Sp.s, s.fixs.length ≤ 1048576) := fun s hs => by
    obtain ⟨y, hy, rfl⟩ := List.mem_map.1 hs
    exact (hl y hy).2.2
  have x0 : W2.cell? ⟨w.heap.size, 0, none⟩ = some (.slice a1 n c1) := hA.cell 0
  have x1 : W2.cell? ⟨w.heap.size, 1, none⟩ = some (.slice a2 m c2) := hA.cell 1
  have HA := hidden hA
  have HR := hidden hR
  have HBA := hidden hBa
  clear h1 h2 hkv hl hB hW2 hn hm hA hR hBa hkn hto
  go_enter Try.func35, Try.ntmps35
  go_upto_region 1 with fail
  rw [HW2.out]
  clear HW2
  go_wp2_with fail
  refine HCP.out.mono ?_
  clear HCP x0 x1
  rintro e w3 ⟨L, b1, b2, d1, d2, rfl, hLs, hown, hb3⟩
  dsimp only at hLs hown
  have hLn : L.length = n := by have := congrArg List.length hLs; rw [List.length_map, List.length_map] at this; rw [this]; exact HN.out.symm
  have hMm : ms.length = m := HM.out.symm
  rw [hLn, hMm] at hown
  dsimp only
  rw [hLn, hMm]
  have hC4 : CpS w (w3.alloc (.cells #[.slice b1 n d1, .slice b2 m d2] 26)) (.slice a1 n c1) (.slice a2 m c2) w3.heap.size (.slice b1 n d1) (.slice b2 m d2) L ms := by
    refine ⟨(HBA.out.trans (hb3.mono HBA.out.size)).alloc (Nat.le_trans HBA.out.size hb3.size) _, (HA.out.below hb3 HA.out.lt).alloc _, (HR.out.below hb3 HR.out.lt).alloc _, ⟨Has.new _ _ _, (hown.secs.lower HBA.out.size).alloc _, ?_⟩, Nat.lt_of_lt_of_le HR.out.lt hb3.size⟩
    rw [hMm]; exact (row_lower hown.syms HBA.out.size).alloc _
  obtain ⟨Q, hQ⟩ : ∃ q, w3.heap.size = q := ⟨_, rfl⟩
  obtain ⟨W4, hW4⟩ : ∃ q, w3.alloc (.cells #[.slice b1 n d1, .slice b2 m d2] 26) = q := ⟨_, rfl⟩
  rw [hW4, hQ] at hC4
  have HW4 := hidden hW4
  have HQ := hidden hQ
  have y1 : (W4.alloc (.cells #[] 59)).cell? ⟨Q, 1, none⟩ = some (.slice b2 m d2) := (hC4.ob.obj.alloc _).cell 1
  have f1 : (W4.alloc (.cells #[] 59)).frozen? ⟨Q, 1, none⟩ = false := (hC4.ob.obj.alloc (.cells #[] 59)).free 1
  have hC4a := hC4.only ((Below.refl W4.heap.size W4).alloc (Nat.le_refl _) (.cells #[] 59))
  have hfar := hC4.far
  have hC5 : CpS w ((W4.alloc (.cells #[] 59)).setCell ⟨Q, 1, none⟩ (.slice (some ⟨W4.heap.size, 0, none⟩) 0 0)) (.slice a1 n c1) (.slice a2 m c2) Q (.slice b1 n d1) (.slice (some ⟨W4.heap.size, 0, none⟩) 0 0) L [] :=
    ⟨hC4a.below.grown (only_put' 1 _) hC4a.below.size (by intro q hq; injection hq with hq; omega), hC4a.arg.away (by show w.heap.size ≠ Q; omega) _, hC4a.res.away (by show w.heap.size + 1 ≠ Q; omega) _, hC4a.ob.putM (ms' := []) (empty_row W4 w.heap.size 59 4 hC4.below.size), hfar⟩
  obtain ⟨W5, hW5⟩ : ∃ q, (W4.alloc (.cells #[] 59)).setCell ⟨Q, 1, none⟩ (.slice (some ⟨W4.heap.size, 0, none⟩) 0 0) = q := ⟨_, rfl⟩
  obtain ⟨sa, hsa⟩ : ∃ q, W4.heap.size = q := ⟨_, rfl⟩
  rw [hW5, hsa] at hC5
  rw [hsa] at hW5
  have hK6 : KpT w (W5.alloc (.cells #[] 3)) (.slice a1 n c1) (.slice a2 m c2) Q (.slice b1 n d1) (.slice (some ⟨sa, 0, none⟩) 0 0) L (keptL (keep.take 0) (ms.take 0)) (.slice (some ⟨W5.heap.size, 0, none⟩) 0 0) 0 (tosL keep 0) :=
    ⟨by rw [List.take_zero]; exact hC5.only ((Below.refl W5.heap.size W5).alloc (Nat.le_refl _) _), empty_row W5 w.heap.size 3 1 hC5.below.size⟩
  obtain ⟨W6, hW6⟩ : ∃ q, W5.alloc (.cells #[] 3) = q := ⟨_, rfl⟩
  rw [hW6] at hK6
  have HW5 := hidden hW5
  have HW6 := hidden hW6
  have HSA := hidden hsa
  have HK6 := hidden hK6
  have HLS := hidden hLs
  have HLN := hidden hLn
  clear hown hb3 hMm hC4 hW4 hQ hC4a hC5 hW5 hW6 hsa hK6 hLs hLn hfar HA HR HBA
  go_upto_region 2 with fail
  rw [HW4.out, HQ.out]
  clear HW4 HQ
  go_upto_region 3 with fail
  rw [HSA.out, HW5.out]
  clear y1 f1 HSA HW5
  go_upto_region 4 with fail
  rw [HW6.out]
  clear HW6
  go_wp2_with fail
  go_loopw [6, 7] (fun tv i wr => ∃ (k nm : Nat) (ta ma : Option Addr) (tc mc : Nat), i = .int .i64 k ∧ tv = .slice ta k tc ∧ k ≤ m ∧ nm ≤ k ∧ Hid ((keptL (keep.take k) (ms.take k)).length = nm) ∧ Hid (KpT w wr (.slice a1 n c1) (.slice a2 m c2) Q (.slice b1 n d1) (.slice ma nm mc) L (keptL (keep.take k) (ms.take k)) (.slice ta k tc) k (tosL keep k))) (fun _ i _ => m - (intOf i).toNat)
  case atStart => exact ⟨0, 0, _, _, 0, 0, rfl, rfl, Nat.zero_le _, Nat.le_refl _, (by show _ = _; rfl), HK6⟩
  case round =>
    obtain ⟨k, nm, ta, ma, tc, mc, rfl, rfl, hk, hnm, hml, hkp⟩ := hrel
    have q1 : wr.cell? ⟨w.heap.size, 1, none⟩ = some (.slice a2 m c2) := hkp.out.cp.arg.cell 1
    by_cases hlt : k < m
    · have hilt : (k : Int) < (m : Int) := by omega
      have hkl : k < ms.length := by rw [← HM.out]; exact hlt
      have hkk : k < (keep.map Value.bool).length := by rw [List.length_map, HKN.out]; exact hlt
      have hsy := H2.out
      obtain ⟨b, off, rfl, hbB, -, -, -, -⟩ := hsy.at_ hkl
      obtain ⟨kb, ko, rfl, hkB, -⟩ := HKV.out.at_ hkk
      obtain ⟨y, hy⟩ : ∃ y, ms[k] = y := ⟨_, rfl⟩
      have hy2 : ms[k]? = some y := by rw [List.getElem?_eq_getElem hkl, hy]
      obtain ⟨x, hx⟩ : ∃ x, keep[k]? = some x := ⟨_, List.getElem?_eq_getElem (by rw [HKN.out]; exact hlt)⟩
      have HNX := hidden (kept_next (by rw [HKN.out]; exact HM.out) hx hy2)
      have HNM : Hid (tosL keep (k + 1) = tosL keep k ++ [(nm : Int)]) := by
        show _ = _
        rw [tosL_next, kept_many keep ms (by rw [HKN.out]; exact HM.out), hml.out]
      have HVK : Hid (∀ W, Below w.heap.size w W → W.cell? ⟨kb, ko + k, none⟩ = some (.bool x)) := fun W hW => by
        obtain ⟨b', o', e', _, hc⟩ := (HKV.out.below hW) (by omega)
        injection e' with e'; injection e' with e1 e2; subst e1; subst e2
        exact hc k _ (by rw [List.getElem?_map, hx]; rfl)
      have HSK : Hid (∀ W, Below w.heap.size w W → W.cell? ⟨b, off + k * 4, none⟩ = some (.string y.name) ∧ W.cell? ⟨b, off + k * 4 + 1, none⟩ = some (.int .i64 y.bind) ∧ W.cell? ⟨b, off + k * 4 + 2, none⟩ = some (.int .i64 y.loc) ∧ W.cell? ⟨b, off + k * 4 + 3, none⟩ = some (.int .i64 y.value)) := fun W hW => by
        obtain ⟨b', o', e', _, hc⟩ := (H2.out.below hW) (by omega)
        injection e' with e'; injection e' with e1 e2; subst e1; subst e2
        exact hc k _ hy2
      have o1 : wr.cell? ⟨Q, 1, none⟩ = some (.slice ma nm mc) := hkp.out.cp.ob.obj.cell 1
      have hka := hkp.out.alloc (.cells #[.int .i64 nm] 3)
      have HKA := hidden hka
      have HNW : Hid (Has (wr.alloc (.cells #[.int .i64 nm] 3)) wr.heap.size 3 #[.int .i64 nm]) := Has.new _ _ _
      have HST : Hid (w.heap.size ≤ (wr.alloc (.cells #[.int .i64 nm] 3)).heap.size) := hka.cp.below.size
      clear hka hkl hkk hsy hbB hkB hy hy2 hx hlt hkp
      go_wp2_with (at_builtin; refine wpList_app_int _ rfl _ _ rfl w.heap.size _ k _ rfl HKA.out.row wr.heap.size 1 nm rfl HNW.out (by omega) HST.out ?_)
      intro ta' tc' W8 hrow8 hg8
      have hcp8 := HKA.out.cp.rowI HKA.out.row (Nat.le_refl _) hg8
      have hK8 : KpT w W8 (.slice a1 n c1) (.slice (some ⟨b, off, none⟩) m c2) Q (.slice b1 n d1) (.slice ma nm mc) L (keptL (keep.take k) (ms.take k)) (.slice ta' (k + 1) tc') (k + 1) (tosL keep (k + 1)) := ⟨hcp8, by rw [HNM.out, List.map_append]; exact hrow8⟩
      have HK8 := hidden hK8
      have v8 := HVK.out W8 hK8.cp.below
      clear hrow8 hg8 hcp8 hK8 HKA HNW HST HNM HVK q1 o1
      cases x with
      | false =>
        have HKN' : Hid (KpT w W8 (.slice a1 n c1) (.slice (some ⟨b, off, none⟩) m c2) Q (.slice b1 n d1) (.slice ma nm mc) L (keptL (keep.take (k + 1)) (ms.take (k + 1))) (.slice ta' (k + 1) tc') (k + 1) (tosL keep (k + 1))) := by
          have e : keptL (keep.take (k + 1)) (ms.take (k + 1)) = keptL (keep.take k) (ms.take k) := by rw [HNX.out]; simp
          rw [e]; exact HK8.out
        have HML' : Hid ((keptL (keep.take (k + 1)) (ms.take (k + 1))).length = nm) := by
          have e : keptL (keep.take (k + 1)) (ms.take (k + 1)) = keptL (keep.take k) (ms.take k) := by rw [HNX.out]; simp
          rw [e]; exact hml
        clear HNX HK8 hml HSK
        go_wp2_with fail
        go_roundw
        case rel => exact ⟨k + 1, nm, ta', ma, tc', mc, by go_num, rfl, by omega, by omega, HML', HKN'⟩
        case measure => simp [intOf]; omega
      | true =>
        obtain ⟨MS, hMS⟩ : ∃ q, keptL (keep.take k) (ms.take k) = q := ⟨_, rfl⟩
        rw [hMS] at HNX HK8 hml
        obtain ⟨my0, my1, my2, my3⟩ := y
        dsimp only at HSK
        obtain ⟨ta, rfl⟩ : ∃ q, q = ta' := ⟨_, rfl⟩
        obtain ⟨tc, rfl⟩ : ∃ q, q = tc' := ⟨_, rfl⟩
        have HJ0 : Hid (JK w (.slice a1 n c1) (.slice (some ⟨b, off, none⟩) m c2) Q (.slice b1 n d1) (.slice ma nm mc) L MS (.slice ta (k + 1) tc) (k + 1) (tosL keep (k + 1)) ⟨my0, my1, my2, my3⟩ nm 0 W8.drew fun _ => undef) := HK8.out.drew
        have HML := hml
        clear hml hMS
        go_upto_region 9 with fail
        refine wp_region_chain (m := 3) (js := [.quiet (.pointer (some ⟨Q, 1, none⟩)) 3, .quiet (.slice ma nm mc) 1, .quiet (.pointer (some ⟨w.heap.size, 1, none⟩)) 3, .quiet (.slice (some ⟨b, off, none⟩) m c2) 3, .quiet (.int .i64 k) 3, .quiet (.pointer (some ⟨b, off + k * 4, none⟩)) 3, .quiet (.agg #[.string my0, .int .i64 my1, .int .i64 my2, .int .i64 my3]) 3, .chain 0, .chain 1, .quiet (.pointer (some ⟨Q, 1, none⟩)) 3, .chain 2]) (by kernel_rfl) (JK w (.slice a1 n c1) (.slice (some ⟨b, off, none⟩) m c2) Q (.slice b1 n d1) (.slice ma nm mc) L MS (.slice ta (k + 1) tc) (k + 1) (tosL keep (k + 1)) ⟨my0, my1, my2, my3⟩ nm) (by kernel_rfl) (by kernel_rfl) ⟨_, HJ0.out⟩ (fun vals => ?_) ?_
        · show SeqW _ _ _ _ _ _ _
          refine ⟨fun kk hkk W hW => ?_, ?_⟩
          · unfold Oper.wp
            simp [go_sem]
            try exact ⟨_, rfl, rfl⟩
          simp only [Act.put, List.setIfInBounds_toArray, List.set_cons_succ, List.set_cons_zero]
          refine ⟨fun kk hkk W hW => ?_, ?_⟩
          · have q : W.cell? ⟨Q, 1, none⟩ = some (.slice ma nm mc) := (JK.obj hW hkk).cell 1
            unfold Oper.wp
            simp [go_sem, q]
            try exact ⟨_, rfl, rfl⟩
          simp only [Act.put, List.setIfInBounds_toArray, List.set_cons_succ, List.set_cons_zero]
          refine ⟨fun kk hkk W hW => ?_, ?_⟩
          · unfold Oper.wp
            simp [go_sem]
            try exact ⟨_, rfl, rfl⟩
          simp only [Act.put, List.setIfInBounds_toArray, List.set_cons_succ, List.set_cons_zero]
          refine ⟨fun kk hkk W hW => ?_, ?_⟩
          · have q : W.cell? ⟨w.heap.size, 1, none⟩ = some (.slice (some ⟨b, off, none⟩) m c2) := (JK.arg hW).2.cell 1
            unfold Oper.wp
            simp [go_sem, q]
            try exact ⟨_, rfl, rfl⟩
          simp only [Act.put, List.setIfInBounds_toArray, List.set_cons_succ, List.set_cons_zero]
          refine ⟨fun kk hkk W hW => ?_, ?_⟩
          · unfold Oper.wp
            simp [go_sem]
            try exact ⟨_, rfl, rfl⟩
          simp only [Act.put, List.setIfInBounds_toArray, List.set_cons_succ, List.set_cons_zero]
          refine ⟨fun kk hkk W hW => ?_, ?_⟩
          · have hilt' : (k : Int) < (m : Int) := hilt
            unfold Oper.wp
            simp [go_sem, hilt']
            try exact ⟨_, rfl, rfl⟩
          simp only [Act.put, List.setIfInBounds_toArray, List.set_cons_succ, List.set_cons_zero]
          refine ⟨fun kk hkk W hW => ?_, ?_⟩
          · obtain ⟨q0, q1, q2, q3⟩ := HSK.out W (JK.arg hW).1
            unfold Oper.wp
            simp [go_sem, q0, q1, q2, q3]
            try exact ⟨_, rfl, rfl⟩
          simp only [Act.put, List.setIfInBounds_toArray, List.set_cons_succ, List.set_cons_zero]
          refine ⟨fun W hW => ?_, ?_⟩
          · have hW0 : KpT w W (.slice a1 n c1) (.slice (some ⟨b, off, none⟩) m c2) Q (.slice b1 n d1) (.slice ma nm mc) L MS (.slice ta (k + 1) tc) (k + 1) (tosL keep (k + 1)) := hW
            have hN : JK w (.slice a1 n c1) (.slice (some ⟨b, off, none⟩) m c2) Q (.slice b1 n d1) (.slice ma nm mc) L MS (.slice ta (k + 1) tc) (k + 1) (tosL keep (k + 1)) ⟨my0, my1, my2, my3⟩ nm 1 (W.alloc (.cells #[.string my0, .int .i64 my1, .int .i64 my2, .int .i64 my3] 59)) (upd vals 0 (.slice (some ⟨W.heap.size, 0, none⟩) 1 1)) := ⟨hW0.alloc _, W.heap.size, rfl, Has.new _ _ _⟩
            unfold Oper.wp
            simp [go_sem]
            first | exact hN | exact ⟨_, rfl, hN⟩
          simp only [Act.put, List.setIfInBounds_toArray, List.set_cons_succ, List.set_cons_zero]
          refine ⟨fun W hW => ?_, ?_⟩
          · obtain ⟨hW1, hb, hv, hh⟩ := hW
            have hsl : MS.length = nm := HML.out
            refine wp_append_row _ _ 24 59 rfl _ 4 40 Try.info_symbol Try.underlying24 rfl (by decide) (by decide) w.heap.size (.slice ma nm mc) nm (flatM MS) rfl (by rw [← hsl]; have := hW1.cp.ob.syms; rwa [hsl] at this ⊢) (some ⟨hb, 0, none⟩) 1 1 [.string my0, .int .i64 my1, .int .i64 my2, .int .i64 my3] hv rfl (fun _ => ⟨hb, 0, rfl, fun j u hj => by rw [Nat.zero_add, hh.cell]; simpa using hj⟩) ?_ (by omega) hW1.cp.below.size ?_
            · intro u hu
              simp at hu
              rcases hu with rfl | rfl | rfl | rfl <;> rfl
            · intro v' w' h2 h3
              obtain ⟨b2, d2, rfl⟩ := own_shape h2
              obtain ⟨q0, q1, q2, q3⟩ := hW1.appM (m := ⟨my0, my1, my2, my3⟩) h3 (by rw [hsl]; exact h2)
              exact ⟨_, rfl, (⟨b2, d2, rfl, q0, q1, q2, q3⟩ : JK w (.slice a1 n c1) (.slice (some ⟨b, off, none⟩) m c2) Q (.slice b1 n d1) (.slice ma nm mc) L MS (.slice ta (k + 1) tc) (k + 1) (tosL keep (k + 1)) ⟨my0, my1, my2, my3⟩ nm 2 w' (upd vals 1 (.slice b2 (nm + 1) d2)))⟩
          simp only [Act.put, List.setIfInBounds_toArray, List.set_cons_succ, List.set_cons_zero]
          refine ⟨fun kk hkk W hW => ?_, ?_⟩
          · unfold Oper.wp
            simp [go_sem]
            try exact ⟨_, rfl, rfl⟩
          simp only [Act.put, List.setIfInBounds_toArray, List.set_cons_succ, List.set_cons_zero]
          refine ⟨fun W hW => ?_, trivial⟩
          obtain ⟨b2, d2, hv2, _, _, q1, q2⟩ := hW
          rw [hv2]
          have ck : W.cell? ⟨Q, 1, none⟩ = some (.slice ma nm mc) := q1.cell 1
          have fk : W.frozen? ⟨Q, 1, none⟩ = false := q1.free 1
          have hN : ∀ u, JK w (.slice a1 n c1) (.slice (some ⟨b, off, none⟩) m c2) Q (.slice b1 n d1) (.slice ma nm mc) L MS (.slice ta (k + 1) tc) (k + 1) (tosL keep (k + 1)) ⟨my0, my1, my2, my3⟩ nm 3 (W.setCell ⟨Q, 1, none⟩ (.slice b2 (nm + 1) d2)) (upd vals 2 u) := fun u => ⟨b2, d2, q2⟩
          clear q1 q2
          unfold Oper.wp
          simp [go_sem, ck, fk]
          first | exact hN _ | exact ⟨undef, hN _⟩ | exact ⟨_, rfl, hN _⟩
        · intro W vals hJ
          obtain ⟨b3, d3, hK9⟩ := hJ
          simp only [putAll, List.map_cons, List.map_nil, Job.val, Act.put, List.setIfInBounds_toArray, List.set_cons_succ, List.set_cons_zero]
          have e : keptL (keep.take (k + 1)) (ms.take (k + 1)) = MS ++ [⟨my0, my1, my2, my3⟩] := by rw [HNX.out]; rfl
          have HKN' : Hid (KpT w W (.slice a1 n c1) (.slice (some ⟨b, off, none⟩) m c2) Q (.slice b1 n d1) (.slice b3 (nm + 1) d3) L (keptL (keep.take (k + 1)) (ms.take (k + 1))) (.slice ta (k + 1) tc) (k + 1) (tosL keep (k + 1))) := by rw [e]; exact hK9
          have HML' : Hid ((keptL (keep.take (k + 1)) (ms.take (k + 1))).length = nm + 1) := by
            show _ = _
            rw [e, List.length_append, HML.out]; rfl
          clear hK9 e HJ0 HK8 HNX HML HSK v8
          go_wp2_with fail
          go_roundw
          case rel => exact ⟨k + 1, nm + 1, ta, b3, tc, d3, by go_num, rfl, by omega, by omega, HML', HKN'⟩
          case measure => simp [intOf]; omega
    · have hilt : ¬ (k : Int) < (m : Int) := by omega
      have hkm : k = m := by omega
      subst hkm
      have HKF : Hid (KpT w wr (.slice a1 n c1) (.slice a2 k c2) Q (.slice b1 n d1) (.slice ma nm mc) L (keptL keep ms) (.slice ta k tc) k (tosL keep k)) := by
        have := hkp.out
        rwa [List.take_of_length_le (by rw [HKN.out]; exact Nat.le_refl _), List.take_of_length_le (by rw [← HM.out]; exact Nat.le_refl _)] at this
      have HMF : Hid ((keptL keep ms).length = nm) := by
        have := hml.out
        rwa [List.take_of_length_le (by rw [HKN.out]; exact Nat.le_refl _), List.take_of_length_le (by rw [← HM.out]; exact Nat.le_refl _)] at this
      clear hlt hk hkp hml HK6 hnm
      go_wp2_with fail
      clear hilt q1
      go_loopw [8] (fun i wr => ∃ (p : Nat) (L' : List Sp), i = .int .i64 p ∧ p ≤ n ∧ Hid (KpT w wr (.slice a1 n c1) (.slice a2 k c2) Q (.slice b1 n d1) (.slice ma nm mc) L' (keptL keep ms) (.slice ta k tc) k (tosL keep k)) ∧ Hid (L'.map Sp.s = renum (keptN keep) p 0 (l.map Sp.s))) (fun i _ => n - (intOf i).toNat)
      case atStart => exact ⟨0, L, rfl, Nat.zero_le _, HKF, (by show _ = _; rw [HLS.out, renum_start])⟩
      case round =>
        obtain ⟨p, L', rfl, hp, hkp, hL⟩ := hrel
        clear HKF
        have o0 : wr.cell? ⟨Q, 0, none⟩ = some (.slice b1 n d1) := hkp.out.cp.ob.obj.cell 0
        have HLN' : Hid (L'.length = n) := by
          have := renum_length hL.out
          rw [List.length_map, ← HN.out] at this
          exact this
        by_cases hlt : p < n
        · have hilt : (p : Int) < (n : Int) := by omega
          obtain ⟨s, hs⟩ : ∃ s, (l.map Sp.s)[p]? = some s := ⟨_, List.getElem?_eq_getElem (by rw [List.length_map, ← HN.out]; exact hlt)⟩
          have hrow := hkp.out.cp.ob.secs.row
          rw [HLN'.out] at hrow
          rcases hrow.2 with ⟨_, h0⟩ | ⟨g0, cap0, cur0, hv0, _⟩
          · omega
          have hb1 : b1 = some ⟨g0, 0, none⟩ := by injection hv0
          clear hv0
          subst hb1
          obtain ⟨nf, hnf⟩ : ∃ q, s.fixs.length = q := ⟨_, rfl⟩
          have hsm := HSH.out s (List.mem_of_getElem? hs)
          rw [hnf] at hsm
          have HSF : Hid (∀ f ∈ s.fixs, 0 ≤ f.to ∧ f.to < k) := HTO.out s (List.mem_of_getElem? hs)
          have HS := hidden hs
          have HNF := hidden hnf
          clear hrow hs hnf hlt HLN'
          go_wp2_with fail
          clear o0
          go_loopw [9] (fun i wr => ∃ (j : Nat) (L' : List Sp), i = .int .i64 j ∧ j ≤ nf ∧ Hid (KpT w wr (.slice a1 n c1) (.slice a2 k c2) Q (.slice (some ⟨g0, 0, none⟩) n d1) (.slice ma nm mc) L' (keptL keep ms) (.slice ta k tc) k (tosL keep k)) ∧ Hid (L'.map Sp.s = renum (keptN keep) p j (l.map Sp.s))) (fun i _ => nf - (intOf i).toNat)
          case atStart => exact ⟨0, L', rfl, Nat.zero_le _, hkp, hL⟩
          case round =>
            obtain ⟨j, L2, rfl, hj, hk2, hL2⟩ := hrel
            clear hkp hL
            have HLN2 : Hid (L2.length = n) := by
              have := renum_length hL2.out
              rw [List.length_map, ← HN.out] at this
              exact this
            have o0 : wr.cell? ⟨Q, 0, none⟩ = some (.slice (some ⟨g0, 0, none⟩) n d1) := hk2.out.cp.ob.obj.cell 0
            have HRW : Hid (wr.ownsRow w.heap.size 64 6 (.slice (some ⟨g0, 0, none⟩) n d1) n (flatS L2)) := by
              have := hk2.out.cp.ob.secs.row
              rwa [HLN2.out] at this
            have HS5 : Hid (∀ y, L2[p]? = some y → wr.cell? ⟨g0, p * 6 + 5, none⟩ = some (.slice y.a2 y.s.fixs.length y.c2)) := fun y hy => by
              rw [HRW.out.cellAt (p * 6 + 5) (by omega)]
              exact (flatS_at _ _ _ hy).2.2.2.2.2
            by_cases hlt : j < nf
            · have hiltj : (j : Int) < (nf : Int) := by omega
              obtain ⟨f, hf⟩ : ∃ f, s.fixs[j]? = some f := ⟨_, List.getElem?_eq_getElem (by rw [HNF.out]; exact hlt)⟩
              obtain ⟨y, hy, hyf, hyl, hnext⟩ := renum_next hL2.out HS.out hf
              obtain ⟨g, hga, hcell, hfro, hset⟩ := hk2.out.setTo hy hyf
              have hs5 := HS5.out y hy
              rw [hyl, HNF.out] at hs5
              obtain ⟨ht0, ht1⟩ := HSF.out f (List.mem_of_getElem? hf)
              obtain ⟨tn, htn⟩ := Int.eq_ofNat_of_zero_le ht0
              have hti : (tn : Int) < (k : Int) := by omega
              have htk : tn < k := by omega
              obtain ⟨kv, hkv⟩ : ∃ q, keptN keep (tn : Int) = q := ⟨_, rfl⟩
              rw [htn, hkv] at hnext
              rw [htn] at hcell
              have hrow := hk2.out.row
              rcases hrow.2 with ⟨_, h0⟩ | ⟨ti, capi, curi, hvi, _⟩
              · omega
              have hta : ta = some ⟨ti, 0, none⟩ := by injection hvi
              clear hvi
              have htc : wr.cell? ⟨ti, tn, none⟩ = some (.int .i64 kv) := by
                subst hta
                rw [hrow.cellAt tn (by omega), List.getElem?_map, tosL_at keep htk, hkv]; rfl
              have HK3 : Hid (KpT w (wr.setCell ⟨g, j * 4 + 2, none⟩ (.int .i64 kv)).drew (.slice a1 n c1) (.slice a2 k c2) Q (.slice (some ⟨g0, 0, none⟩) n d1) (.slice ma nm mc) (L2.set p (y.to j f kv)) (keptL keep ms) (.slice ta k tc) k (tosL keep k)) := (hset kv).drew
              have HL3 : Hid ((L2.set p (y.to j f kv)).map Sp.s = renum (keptN keep) p (j + 1) (l.map Sp.s)) := hnext
              rw [hga] at hs5
              obtain ⟨yc, hyc⟩ : ∃ q, y.c2 = q := ⟨_, rfl⟩
              rw [hyc] at hs5
              have d0 : wr.drew.cell? ⟨Q, 0, none⟩ = some (.slice (some ⟨g0, 0, none⟩) n d1) := o0
              have d5 : wr.drew.cell? ⟨g0, p * 6 + 5, none⟩ = some (.slice (some ⟨g, 0, none⟩) nf yc) := hs5
              have dc : wr.drew.cell? ⟨g, j * 4 + 2, none⟩ = some (.int .i64 (tn : Int)) := hcell
              have df : wr.drew.frozen? ⟨g, j * 4 + 2, none⟩ = false := hfro
              have dt : wr.drew.cell? ⟨ti, tn, none⟩ = some (.int .i64 kv) := htc
              subst hta
              clear hlt hf hy hyf hyl hnext hga hfro hset ht0 ht1 htn hkv hrow hyc hk2 hL2 HRW HS5 HLN2 htc
              go_wp2_with fail
              go_region
              clear d0 d5 dc df dt o0 hs5 hcell hti htk
              go_wp2_with fail
              go_roundw
              case rel => exact ⟨j + 1, _, by go_num, by omega, HK3, HL3⟩
              case measure => simp [intOf]; omega
            · have hiltj : ¬ (j : Int) < (nf : Int) := by omega
              obtain ⟨y, hy, hyl⟩ := renum_at hL2.out HS.out
              have hs5 := HS5.out y hy
              rw [hyl, HNF.out] at hs5
              have HL3 : Hid (L2.map Sp.s = renum (keptN keep) (p + 1) 0 (l.map Sp.s)) := by
                show _ = _
                rw [hL2.out]
                exact renum_step _ _ _ _ fun s' hs' => by
                  rw [HS.out] at hs'
                  injection hs' with e
                  rw [← e, HNF.out]; omega
              obtain ⟨ya, hya⟩ : ∃ q, y.a2 = q := ⟨_, rfl⟩
              obtain ⟨yc, hyc⟩ : ∃ q, y.c2 = q := ⟨_, rfl⟩
              rw [hya, hyc] at hs5
              clear hlt hj hy hyl hL2 HRW HS5 HLN2 hya hyc
              go_wp2_with fail
              go_roundw
              case rel => exact ⟨p + 1, L2, by go_num, by omega, hk2, HL3⟩
              case measure => simp [intOf]; omega
        · have hilt : ¬ (p : Int) < (n : Int) := by omega
          have hpn : p = n := by omega
          have HLL : Hid (L'.map Sp.s = (l.map Sp.s).map (fixTo (keptN keep))) := by
            show _ = _
            rw [hL.out]
            exact renum_all _ _ _ (by rw [List.length_map, ← HN.out]; omega)
          have HAN := hidden (hkp.out.cp.answer HLN'.out.symm HMF.out.symm)
          have o1 : wr.cell? ⟨Q, 1, none⟩ = some (.slice ma nm mc) := hkp.out.cp.ob.obj.cell 1
          have r0 : wr.cell? ⟨w.heap.size + 1, 0, none⟩ = some (.slice none 0 0) := hkp.out.cp.res.cell 0
          have r1 : wr.cell? ⟨w.heap.size + 1, 1, none⟩ = some (.slice none 0 0) := hkp.out.cp.res.cell 1
          have u0 : wr.frozen? ⟨w.heap.size + 1, 0, none⟩ = false := hkp.out.cp.res.free 0
          have u1 : wr.frozen? ⟨w.heap.size + 1, 1, none⟩ = false := hkp.out.cp.res.free 1
          clear hlt hkp hL HLN' hpn hp
          go_wp2_with fail
          refine bodyPost_ret (results_cell_row rfl _ _ (w.heap.size + 1) 26 #[.slice b1 n d1, .slice ma nm mc] (0, 0) _ rfl HAN.out.1 Try.underlying26 rfl (by kernel_rfl)) rfl ?_
          have := HAN.out.2
          rw [HLL.out, List.map_map] at this
          exact this

end Go.Proofs.Ytjpclpjhigongaa

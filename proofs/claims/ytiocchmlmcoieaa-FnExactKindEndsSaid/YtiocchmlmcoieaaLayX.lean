/-
  Lists of lists of numbers: compared, marked, and held against the marks; what marks on objects leave of them.
-/
import Derived.Test.YtiocchmlmcoieaaLayW
import Derived.Test.YtiocchmlmcoieaaIntS
import Derived.Test.YtiocchmlmcoieaaMarkL
import Derived.Test.YtiocchmlmcoieaaRegionV
namespace Go.Proofs.Ytiocchmlmcoieaa
open Go.RowKit

/-- How many numbers stand ahead of a list. -/
def startR (l : List Rn) (i : Nat) : Nat := ((l.take i).map fun x => x.r.length).sum
theorem startR_next {l : List Rn} {i : Nat} {x : Rn} (h : l[i]? = some x) : startR l (i + 1) = startR l i + x.r.length := by
  unfold startR
  rw [List.take_add_one, h, List.map_append, List.sum_append]
  simp
theorem startR_few {l : List Rn} (h : ∀ x ∈ l, x.r.length ≤ 8) : ∀ i, startR l i ≤ 8 * i := by
  intro i
  induction i with
  | zero => simp [startR]
  | succ i ih =>
    rcases hq : l[i]? with _ | x
    · have : l.take (i + 1) = l.take i := by rw [List.take_add_one, hq]; simp
      unfold startR at ih ⊢
      rw [this]; omega
    · rw [startR_next hq]
      have := h x (List.mem_of_getElem? hq)
      omega
set_option maxRecDepth 100000 in
set_option maxHeartbeats 2000000 in
theorem eqIntSS_yes (w : World) (lo1 lo2 : Nat) (a1 a2 : Option Addr) (c1 c2 n : Nat) (l1 l2 : List Rn) (h1 : Rw w lo1 (.slice a1 n c1) l1) (h2 : Rw w lo2 (.slice a2 n c2) l2) (he : l1.map Rn.r = l2.map Rn.r) (hw : SmallR (l1.map Rn.r)) (hn : n ≤ 1000000) (hr : ∀ x ∈ l1, x.r.length ≤ 1000000) :
    Calls Try.prog 22 #[.slice a1 n c1, .slice a2 n c2] w fun e w' => e = .returned (.bool true) ∧ Below w.heap.size w w' := by
  have H1 := hidden h1
  have H2 := hidden h2
  have HE := hidden he
  have HW := hidden hw
  have HR := hidden hr
  have HL1 := hidden h1.len
  have HL2 := hidden h2.len
  clear h1 h2 he hw hr
  go_enter Try.func22, Try.ntmps22
  go_wp2
  go_loopw [5] (fun i wr => ∃ k : Nat, k ≤ n ∧ i = .int .i64 k ∧ Hid (Below w.heap.size w wr)) (fun i _ => n - (intOf i).toNat)
  case atStart => exact ⟨0, Nat.zero_le _, rfl, Below.refl _ _⟩
  case round =>
    obtain ⟨k, hk, rfl, hb⟩ := hrel
    by_cases hlt : k < n
    · obtain ⟨x, hx⟩ : ∃ x, l1[k]? = some x := ⟨_, List.getElem?_eq_getElem (by rw [HL1.out]; exact hlt)⟩
      obtain ⟨y, hy⟩ : ∃ y, l2[k]? = some y := ⟨_, List.getElem?_eq_getElem (by rw [HL2.out]; exact hlt)⟩
      have hxy : x.r = y.r := by
        have : (l1.map Rn.r)[k]? = (l2.map Rn.r)[k]? := by rw [HE.out]
        rw [List.getElem?_map, List.getElem?_map, hx, hy] at this
        simpa using this
      have hwf : ∀ z ∈ x.r, (Lit.int .i64 z).wf = true := fun z hz => wf_small (HW.out x.r (List.mem_map_of_mem (List.mem_of_getElem? hx)) z hz)
      have hxl := HR.out x (List.mem_of_getElem? hx)
      obtain ⟨xl, hxl2⟩ : ∃ q, x.r.length = q := ⟨_, rfl⟩
      obtain ⟨b1, ha1, _, _⟩ := H1.out.at_ hx
      obtain ⟨b2, ha2, _, _⟩ := H2.out.at_ hy
      subst ha1
      subst ha2
      have HC : Hid (∀ W, Below wr.heap.size wr W → W.cell? ⟨b1, k, none⟩ = some (.slice (some ⟨x.g, 0, none⟩) xl xl) ∧ W.cell? ⟨b2, k, none⟩ = some (.slice (some ⟨y.g, 0, none⟩) xl xl) ∧ Calls Try.prog 41 #[.slice (some ⟨x.g, 0, none⟩) xl xl, .slice (some ⟨y.g, 0, none⟩) xl xl] W fun e w' => e = .returned (.bool true) ∧ ∃ n, w' = W.drewN n) := fun W hW => by
        have hbw := hb.out.trans (hW.mono hb.out.size)
        have k1 := H1.out.only hbw
        have k2 := H2.out.only hbw
        obtain ⟨q1, hq1, _, e1⟩ := k1.at_ hx
        obtain ⟨q2, hq2, _, e2⟩ := k2.at_ hy
        injection hq1 with hq1
        injection hq1 with hq1
        injection hq2 with hq2
        injection hq2 with hq2
        subst hq1
        subst hq2
        rw [hxl2] at e1
        rw [← hxy, hxl2] at e2
        have hc := eqIntS_yes W W.heap.size W.heap.size (some ⟨x.g, 0, none⟩) (some ⟨y.g, 0, none⟩) xl xl x.r (k1.ints hx hwf) (by have := k2.ints hy (by rw [← hxy]; exact hwf); rwa [← hxy] at this) (by omega)
        rw [hxl2] at hc
        exact ⟨e1, e2, hc⟩
      have hi : (k : Int) < (n : Int) := by omega
      have HLT := hidden hlt
      clear hx hy hxy hwf hxl hxl2 hlt
      go_upto_region 6 with fail
      refine wp_region_seq (by kernel_rfl) (fun W' => Below wr.heap.size wr W') (by kernel_rfl) (Below.refl _ _).drew ?_
      refine SeqV.step (.slice (some ⟨b1, 0, none⟩) n c1) (by rfl) (fun W hW => ?_) ?_
      · unfold Oper.wp
        simp [go_sem]
        try exact hW
      simp only [Act.put, List.setIfInBounds_toArray, List.set_cons_succ, List.set_cons_zero]
      refine SeqV.step (.int .i64 (k : Int)) (by rfl) (fun W hW => ?_) ?_
      · unfold Oper.wp
        simp [go_sem]
        try exact hW
      simp only [Act.put, List.setIfInBounds_toArray, List.set_cons_succ, List.set_cons_zero]
      refine SeqV.step (.pointer (some ⟨b1, k, none⟩)) (by rfl) (fun W hW => ?_) ?_
      · have q := hi
        unfold Oper.wp
        simp [go_sem, q]
        try exact hW
      simp only [Act.put, List.setIfInBounds_toArray, List.set_cons_succ, List.set_cons_zero]
      refine SeqV.step (.slice (some ⟨x.g, 0, none⟩) xl xl) (by rfl) (fun W hW => ?_) ?_
      · obtain ⟨q, _, _⟩ := HC.out W hW
        unfold Oper.wp
        simp [go_sem, q]
        try exact hW
      simp only [Act.put, List.setIfInBounds_toArray, List.set_cons_succ, List.set_cons_zero]
      refine SeqV.step (.slice (some ⟨b2, 0, none⟩) n c2) (by rfl) (fun W hW => ?_) ?_
      · unfold Oper.wp
        simp [go_sem]
        try exact hW
      simp only [Act.put, List.setIfInBounds_toArray, List.set_cons_succ, List.set_cons_zero]
      refine SeqV.step (.int .i64 (k : Int)) (by rfl) (fun W hW => ?_) ?_
      · unfold Oper.wp
        simp [go_sem]
        try exact hW
      simp only [Act.put, List.setIfInBounds_toArray, List.set_cons_succ, List.set_cons_zero]
      refine SeqV.step (.pointer (some ⟨b2, k, none⟩)) (by rfl) (fun W hW => ?_) ?_
      · have q := hi
        unfold Oper.wp
        simp [go_sem, q]
        try exact hW
      simp only [Act.put, List.setIfInBounds_toArray, List.set_cons_succ, List.set_cons_zero]
      refine SeqV.step (.slice (some ⟨y.g, 0, none⟩) xl xl) (by rfl) (fun W hW => ?_) ?_
      · obtain ⟨_, q, _⟩ := HC.out W hW
        unfold Oper.wp
        simp [go_sem, q]
        try exact hW
      simp only [Act.put, List.setIfInBounds_toArray, List.set_cons_succ, List.set_cons_zero]
      refine SeqV.step (.bool true) (by rfl) (fun W hW => ?_) ?_
      · obtain ⟨_, _, hc⟩ := HC.out W hW
        unfold Oper.wp
        simp [go_sem]
        refine hc.mono ?_
        rintro e w' ⟨rfl, n, rfl⟩
        exact ⟨rfl, below_drewN hW n⟩
      simp only [Act.put, List.setIfInBounds_toArray, List.set_cons_succ, List.set_cons_zero]
      refine SeqV.step (.bool false) (by rfl) (fun W hW => ?_) ?_
      · unfold Oper.wp
        simp [go_sem]
        try exact hW
      simp only [Act.put, List.setIfInBounds_toArray, List.set_cons_succ, List.set_cons_zero]
      intro W3 hW3
      have HB3 := hidden (hb.out.trans (hW3.mono hb.out.size))
      clear hW3 HC
      go_wp2_with fail
      go_roundw
      case rel => exact ⟨k + 1, HLT.out, by go_num, HB3⟩
      case measure => have := HLT.out; simp [intOf]; omega
    · have hi : ¬ (k : Int) < (n : Int) := by omega
      go_wp2
      go_ret
      exact ⟨rfl, hb.out⟩

/-- A list of numbers is marked. -/
def MkAt (W : World) (lo : Nat) (x : Rn) (k : Int) : Prop := lo ≤ x.g ∧ (0 < x.r.length → ∃ c, Has W x.g 3 c ∧ ∀ j, j < x.r.length → c[j]? = some (.int .i64 (k + (j : Nat))))
/-- The first lists are marked, the others as they were. -/
structure HalfR (W : World) (lo : Nat) (v : Value) (l : List Rn) (k : Int) (i : Nat) : Prop where
  row : W.ownsRow lo 39 1 v l.length (l.map Rn.val)
  done : ∀ (t : Nat) (x : Rn), t < i → l[t]? = some x → MkAt W lo x (k + (startR l t : Nat))
  left : ∀ (t : Nat) (x : Rn), i ≤ t → l[t]? = some x → lo ≤ x.g ∧ Has W x.g 3 x.cells
  apart : l.Pairwise (fun x y => x.g ≠ y.g)
theorem Rw.half {W : World} {lo : Nat} {v : Value} {l : List Rn} (h : Rw W lo v l) (k : Int) : HalfR W lo v l k 0 := ⟨h.row, fun t x ht => by omega, fun t x _ hx => h.vals x (List.mem_of_getElem? hx), h.apart⟩
theorem HalfR.only {W W' : World} {lo : Nat} {v : Value} {l : List Rn} {k : Int} {i : Nat} (h : HalfR W lo v l k i) (hb : Below W.heap.size W W') : HalfR W' lo v l k i :=
  ⟨h.row.kept (grown_only hb) (Classical.em _), fun t x ht hx => by
    obtain ⟨h1, h0⟩ := h.done t x ht hx
    refine ⟨h1, fun hp => ?_⟩
    obtain ⟨c, h2, h3⟩ := h0 hp
    exact ⟨c, h2.below hb h2.lt, h3⟩, fun t x ht hx => ⟨(h.left t x ht hx).1, (h.left t x ht hx).2.below hb (h.left t x ht hx).2.lt⟩, h.apart⟩
theorem HalfR.at_ {W : World} {lo n c : Nat} {a : Option Addr} {l : List Rn} {k : Int} {i t : Nat} {x : Rn} (h : HalfR W lo (.slice a n c) l k i) (hx : l[t]? = some x) : ∃ q, a = some ⟨q, 0, none⟩ ∧ W.cell? ⟨q, t, none⟩ = some (.slice (some ⟨x.g, 0, none⟩) x.r.length x.r.length) := by
  have hkl := (List.getElem?_eq_some_iff.1 hx).1
  rcases h.row.2 with ⟨_, h0⟩ | ⟨g, cap, cur, e, _, hh, _⟩
  · omega
  · have e1 := (Value.slice.inj e).1
    have e2 := (Value.slice.inj e).2.1
    have hrow := h.row
    subst e1
    subst e2
    refine ⟨g, rfl, ?_⟩
    rw [World.ownsRow.cellAt hrow t (by omega), List.getElem?_map, hx]
    rfl
theorem HalfR.next {W W' : World} {lo : Nat} {v : Value} {l : List Rn} {k : Int} {i : Nat} {x : Rn} (h : HalfR W lo v l k i) (hx : l[i]? = some x) (hg : W.grownBy W' (some x.g)) (hm : 0 < x.r.length → ∃ c, Has W' x.g 3 c ∧ ∀ j, j < x.r.length → c[j]? = some (.int .i64 (k + (startR l i : Nat) + (j : Nat)))) : HalfR W' lo v l k (i + 1) := by
  have hxx := h.left i x (Nat.le_refl _) hx
  have hne : ∀ (t : Nat) (y : Rn), t ≠ i → l[t]? = some y → y.g ≠ x.g := fun t y ht hy => by
    have h1 := (List.getElem?_eq_some_iff.1 hx)
    have h2 := (List.getElem?_eq_some_iff.1 hy)
    have hap := List.pairwise_iff_getElem.1 h.apart
    rcases Nat.lt_or_ge t i with hlt | hlt
    · have := hap t i h2.1 h1.1 hlt
      rwa [h2.2, h1.2] at this
    · have := hap i t h1.1 h2.1 (by omega)
      rw [h2.2, h1.2] at this
      exact Ne.symm this
  refine ⟨h.row.kept hg (row_apart h.row hxx.2 (by decide)), fun t y ht hy => ?_, fun t y ht hy => ?_, h.apart⟩
  · by_cases e : t = i
    · subst e
      rw [hx] at hy
      injection hy with hy
      subst hy
      exact ⟨hxx.1, hm⟩
    · obtain ⟨h1, h0⟩ := h.done t y (by omega) hy
      refine ⟨h1, fun hp => ?_⟩
      obtain ⟨c, h2, h3⟩ := h0 hp
      exact ⟨c, h2.grown hg (by intro e2; injection e2 with e2; exact hne t y e hy e2), h3⟩
  · obtain ⟨h1, h2⟩ := h.left t y (by omega) hy
    exact ⟨h1, h2.grown hg (by intro e2; injection e2 with e2; exact hne t y (by omega) hy e2)⟩
set_option maxRecDepth 100000 in
set_option maxHeartbeats 2000000 in
theorem markIntSS_any (w : World) (lo n c : Nat) (a : Option Addr) (l : List Rn) (k : Int) (h : Rw w lo (.slice a n c) l) (hlo : lo ≤ w.heap.size) (hk : 0 ≤ k) (hk2 : k ≤ 1048576) (hn : n ≤ 1000) (hr : ∀ x ∈ l, x.r.length ≤ 8) :
    Calls Try.prog 25 #[.slice a n c, .int .i64 k] w fun e w' => e = .returned (.int .i64 (k + (startR l n : Nat))) ∧ HalfR w' lo (.slice a n c) l k n ∧ Below lo w w' := by
  have HL := hidden h.len
  have HH0 := hidden (h.half k)
  have HR := hidden hr
  have HX0 : Hid (k = k + (startR l 0 : Nat)) := by show _ = _; simp [startR]
  have hst := startR_few hr
  have HST := hidden hst
  clear h hr hst
  go_enter Try.func25, Try.ntmps25
  go_wp2_with fail
  go_loopw [1, 5] (fun m i wr => ∃ (t : Nat) (x : Int), i = .int .i64 t ∧ m = .int .i64 x ∧ t ≤ n ∧ Hid (x = k + (startR l t : Nat)) ∧ Hid (HalfR wr lo (.slice a n c) l k t) ∧ Hid (Below lo w wr)) (fun _ i _ => n - (intOf i).toNat)
  case atStart => exact ⟨0, k, rfl, rfl, Nat.zero_le _, HX0, HH0, Below.refl _ _⟩
  case round =>
    clear HH0 HX0
    obtain ⟨t, x, rfl, rfl, ht, hx, hh, hb⟩ := hrel
    by_cases hlt : t < n
    · have hi : (t : Int) < (n : Int) := by omega
      obtain ⟨y, hy⟩ : ∃ y, l[t]? = some y := ⟨_, List.getElem?_eq_getElem (by rw [HL.out]; exact hlt)⟩
      obtain ⟨q, ha, e1⟩ := hh.out.at_ hy
      subst ha
      have hy8 := HR.out y (List.mem_of_getElem? hy)
      have hs8 := HST.out t
      have hx1 := hx.out
      obtain ⟨yl, hyl⟩ : ∃ q, y.r.length = q := ⟨_, rfl⟩
      have hleft := hh.out.left t y (Nat.le_refl _) hy
      have HC := hidden (markI_wide wr y.g yl yl (some ⟨y.g, 0, none⟩) x (fun _ => ⟨rfl, y.cells, hleft.2, by unfold Rn.cells; simp; omega⟩) (by omega) (by omega))
      rw [hyl] at e1
      have HNX : Hid (∀ w', (0 < yl → ∃ c, Has w' y.g 3 c ∧ ∀ j, j < yl → c[j]? = some (.int .i64 (x + (j : Nat)))) → wr.grownBy w' (some y.g) → HalfR w' lo (.slice (some ⟨q, 0, none⟩) n c) l k (t + 1) ∧ Below lo w w') := fun w' h1 h2 => by
        exact ⟨hh.out.next hy h2 (by rw [hyl, ← hx1]; exact h1), hb.out.grown h2 (Nat.le_trans hlo hb.out.size) (by intro q hq; injection hq with hq; have := hleft.1; omega)⟩
      have HX2 : Hid (x + (yl : Int) = k + (startR l (t + 1) : Nat)) := by show _ = _; rw [startR_next hy, hyl, hx1]; omega
      have HLT := hidden hlt
      clear hy hy8 hs8 hx1 hyl hleft hx hh hb hlt ht
      go_wp2_with fail
      refine HC.out.mono ?_
      clear HC e1
      rintro e w2 ⟨rfl, hm2, hg2⟩
      obtain ⟨hh2, hb2⟩ := HNX.out w2 hm2 hg2
      have HH2 := hidden hh2
      have HB2 := hidden hb2
      clear hm2 hg2 hh2 hb2 HNX
      go_wp2_with fail
      go_roundw
      case rel => exact ⟨t + 1, _, by go_num, rfl, HLT.out, HX2, HH2, HB2⟩
      case measure => have := HLT.out; simp [intOf]; omega
    · have hi : ¬ (t : Int) < (n : Int) := by omega
      obtain rfl : t = n := by omega
      clear hlt ht
      go_wp2_with fail
      go_ret
      exact ⟨ret_int hx.out, hh.out, hb.out⟩
set_option maxRecDepth 100000 in
set_option maxHeartbeats 2000000 in
theorem heldIntSS_any (w : World) (lo n c : Nat) (a : Option Addr) (l : List Rn) (k : Int) (h : HalfR w lo (.slice a n c) l k n) (hlen : l.length = n) (hk : 0 ≤ k) (hk2 : k ≤ 1048576) (hn : n ≤ 1000) (hr : ∀ x ∈ l, x.r.length ≤ 8) :
    Calls Try.prog 26 #[.slice a n c, .int .i64 k] w fun e w' => e = .returned (.int .i64 (k + (startR l n : Nat))) ∧ w = w' := by
  have HL := hidden hlen
  have HH := hidden h
  have HX0 : Hid (k = k + (startR l 0 : Nat)) := by show _ = _; simp [startR]
  have HR := hidden hr
  have HST := hidden (startR_few hr)
  clear h hr hlen
  go_enter Try.func26, Try.ntmps26
  go_wp2_with fail
  go_loopw [1, 5] (fun m i wr => ∃ (t : Nat) (x : Int), i = .int .i64 t ∧ m = .int .i64 x ∧ t ≤ n ∧ Hid (x = k + (startR l t : Nat)) ∧ wr = w) (fun _ i _ => n - (intOf i).toNat)
  case atStart => exact ⟨0, k, rfl, rfl, Nat.zero_le _, HX0, rfl⟩
  case round =>
    clear HX0
    obtain ⟨t, x, rfl, rfl, ht, hx, rfl⟩ := hrel
    by_cases hlt : t < n
    · have hi : (t : Int) < (n : Int) := by omega
      obtain ⟨y, hy⟩ : ∃ y, l[t]? = some y := ⟨_, List.getElem?_eq_getElem (by rw [HL.out]; exact hlt)⟩
      obtain ⟨q, ha, e1⟩ := HH.out.at_ hy
      subst ha
      have hy8 := HR.out y (List.mem_of_getElem? hy)
      have hs8 := HST.out t
      have hx1 := hx.out
      obtain ⟨yl, hyl⟩ : ∃ q, y.r.length = q := ⟨_, rfl⟩
      obtain ⟨_, hcm⟩ := HH.out.done t y hlt hy
      have HC := hidden (heldI_wide wr y.g yl yl (some ⟨y.g, 0, none⟩) x (fun hp => ⟨rfl, fun j hj => by
        obtain ⟨cm, h1, h2⟩ := hcm (by omega)
        rw [h1.cell j, h2 j (by omega), hx1]⟩) (by omega) (by omega))
      rw [hyl] at e1
      have HX2 : Hid (x + (yl : Int) = k + (startR l (t + 1) : Nat)) := by show _ = _; rw [startR_next hy, hyl, hx1]; omega
      have hneg : ¬ x + (yl : Int) < 0 := by omega
      have HLT := hidden hlt
      clear hy hy8 hs8 hx1 hyl hcm hx hlt ht
      go_wp2_with fail
      refine HC.out.mono ?_
      clear HC e1
      rintro e w2 ⟨rfl, rfl⟩
      go_wp2_with fail
      go_roundw
      case rel => exact ⟨t + 1, _, by go_num, rfl, HLT.out, HX2, by trivial⟩
      case measure => have := HLT.out; simp [intOf]; omega
    · have hi : ¬ (t : Int) < (n : Int) := by omega
      obtain rfl : t = n := by omega
      clear hlt ht
      go_wp2_with fail
      go_ret
      exact ⟨ret_int hx.out, rfl⟩

end Go.Proofs.Ytiocchmlmcoieaa

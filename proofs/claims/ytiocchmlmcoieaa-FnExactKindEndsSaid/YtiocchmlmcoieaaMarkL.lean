/-
  The laws' marks on objects in a list of the call's own.
-/
import Derived.Test.YtiocchmlmcoieaaSzK
import Derived.Test.YtiocchmlmcoieaaMarkP
namespace Go.Proofs.Ytiocchmlmcoieaa
open Go.RowKit

/-- An object all of whose lists lie between two numbers of blocks, each whole and alone. -/
def FarJ (lo hi : Nat) (w : World) (y : Oj) : Prop :=
  ∃ g1 g2, y.a1 = some ⟨g1, 0, none⟩ ∧ y.c1 = y.l.length ∧ y.a2 = some ⟨g2, 0, none⟩ ∧ y.c2 = y.ms.length ∧ lo ≤ g1 ∧ g1 < g2 ∧ g2 < hi ∧ (∀ z ∈ y.l, Far g1 w z) ∧ (∀ z ∈ y.l, ∀ b, (z.a1 = some ⟨b, 0, none⟩ ∨ z.a2 = some ⟨b, 0, none⟩) → b < hi) ∧ (∃ cs, Has w g1 42 cs ∧ FilledX cs y.l.length y.l) ∧ ∃ cs, Has w g2 82 cs ∧ cs.size = y.ms.length * 4
theorem FarJ.new {lo g1 g2 n1 n2 : Nat} {w : World} {ls : List Sp} {ms : List Sm} (h1 : lo ≤ g1) (h2 : g1 < g2) (hn1 : n1 = ls.length) (hn2 : n2 = ms.length) (hf : ∀ z ∈ ls, Far g1 w z) (hc : ∃ cs, Has w g1 42 cs ∧ FilledX cs ls.length ls) (hm : ∃ cs, Has w g2 82 cs ∧ cs.size = ms.length * 4) :
    FarJ lo w.heap.size w ⟨ls, ms, some ⟨g1, 0, none⟩, n1, some ⟨g2, 0, none⟩, n2⟩ := by
  refine ⟨g1, g2, rfl, hn1, rfl, hn2, h1, h2, ?_, hf, fun z hz b hb => ?_, hc, hm⟩
  · obtain ⟨cs, hh, _⟩ := hm
    exact hh.lt
  · obtain ⟨b1, b2, ha1, ha2, _, _, _, _, ⟨cb, k1, _⟩, ⟨cf, k2, _⟩⟩ := hf z hz
    rcases hb with hb | hb
    · rw [ha1] at hb; injection hb with hb; injection hb with e1; rw [← e1]; exact k1.lt
    · rw [ha2] at hb; injection hb with hb; injection hb with e1; rw [← e1]; exact k2.lt
theorem FarJ.below {lo hi : Nat} {w w' : World} {y : Oj} (h : FarJ lo hi w y) (hb : Below w.heap.size w w') : FarJ lo hi w' y := by
  obtain ⟨g1, g2, h1, h2, h3, h4, h5, h6, h7, h8, h9, ⟨cs, k1, k2⟩, ⟨cm, k3, k4⟩⟩ := h
  exact ⟨g1, g2, h1, h2, h3, h4, h5, h6, h7, fun z hz => (h8 z hz).below hb, h9, ⟨cs, k1.below hb k1.lt, k2⟩, ⟨cm, k3.below hb k3.lt, k4⟩⟩
theorem FarJ.put {lo hi : Nat} {w : World} {y : Oj} (h : FarJ lo hi w y) {p : Nat} (hp : p < lo) (j : Nat) (u : Value) : FarJ lo hi (w.setCell ⟨p, j, none⟩ u) y := by
  obtain ⟨g1, g2, h1, h2, h3, h4, h5, h6, h7, h8, h9, ⟨cs, k1, k2⟩, ⟨cm, k3, k4⟩⟩ := h
  exact ⟨g1, g2, h1, h2, h3, h4, h5, h6, h7, fun z hz => (h8 z hz).putLow (by omega) j u, h9, ⟨cs, k1.away (p := ⟨p, j, none⟩) (by show g1 ≠ p; omega) u, k2⟩, ⟨cm, k3.away (p := ⟨p, j, none⟩) (by show g2 ≠ p; omega) u, k4⟩⟩
theorem Has.mkL {w w' : World} {lo hi g : Nat} {t : TypeId} {cs : Array Value} (h : Has w g t cs) (hm : Mk lo hi w w') (ho : g < lo ∨ hi ≤ g) : Has w' g t cs := (hm.block g h.lt ho).trans h
theorem Far.mkL {w w' : World} {lo hi g : Nat} {y : Sp} (h : Far g w y) (hm : Mk lo hi w w') (hg : hi ≤ g) : Far g w' y := by
  obtain ⟨b1, b2, h1, h2, h3, h4, h5, h6, ⟨cb, k1, k2⟩, ⟨cf, k3, k4⟩⟩ := h
  refine ⟨b1, b2, h1, h2, h3, h4, ?_, ?_, ⟨cb, k1.mkL hm (.inr (by omega)), k2⟩, ⟨cf, k3.mkL hm (.inr (by omega)), k4⟩⟩
  · refine ⟨h5.1, fun hn => ?_⟩
    obtain ⟨b, off, ha, hb, hc⟩ := h5.2 hn
    have e : b = b1 := by rw [h1] at ha; injection ha with ha; injection ha with e; exact e.symm
    exact ⟨b, off, ha, Nat.lt_of_lt_of_le hb hm.size, fun i hi => (hm.cell hb (.inr (by show _ ≤ b; omega))).trans (hc i hi)⟩
  · intro hn
    obtain ⟨b, off, ha, hb, hc⟩ := h6 hn
    have e : b = b2 := by rw [h2] at ha; injection ha with ha; injection ha with e; exact e.symm
    have hk : ∀ o, w'.cell? ⟨b, o, none⟩ = w.cell? ⟨b, o, none⟩ := fun o => hm.cell hb (.inr (by show _ ≤ b; omega))
    refine ⟨b, off, ha, Nat.lt_of_lt_of_le hb hm.size, fun i f hi => ?_⟩
    obtain ⟨q0, q1, q2, q3⟩ := hc i f hi
    exact ⟨(hk _).trans q0, (hk _).trans q1, (hk _).trans q2, (hk _).trans q3⟩
theorem FarJ.mkL {w w' : World} {l0 lo hi : Nat} {y : Oj} (h : FarJ lo hi w y) (hm : Mk l0 lo w w') : FarJ lo hi w' y := by
  obtain ⟨g1, g2, h1, h2, h3, h4, h5, h6, h7, h8, h9, ⟨cs, k1, k2⟩, ⟨cm, k3, k4⟩⟩ := h
  exact ⟨g1, g2, h1, h2, h3, h4, h5, h6, h7, fun z hz => (h8 z hz).mkL hm h5, h9, ⟨cs, k1.mkL hm (.inr h5), k2⟩, ⟨cm, k3.mkL hm (.inr (by omega)), k4⟩⟩
/-- Objects that lie one behind the other. -/
def Lay (w : World) : Nat → List Oj → Nat → Prop
  | lo, [], hi => lo ≤ hi
  | lo, y :: r, hi => ∃ mid, FarJ lo mid w y ∧ Lay w mid r hi
theorem FarJ.le {lo hi : Nat} {w : World} {y : Oj} (h : FarJ lo hi w y) : lo ≤ hi := by
  obtain ⟨g1, g2, _, _, _, _, h5, h6, h7, _⟩ := h
  omega
theorem Lay.le {w : World} : ∀ {L : List Oj} {lo hi : Nat}, Lay w lo L hi → lo ≤ hi
  | [], _, _, h => h
  | _ :: _, _, _, h => by
    obtain ⟨mid, h1, h2⟩ := h
    exact Nat.le_trans h1.le (Lay.le h2)
theorem Lay.snoc {w : World} {y : Oj} {hi : Nat} : ∀ {L : List Oj} {lo mid : Nat}, Lay w lo L mid → FarJ mid hi w y → Lay w lo (L ++ [y]) hi
  | [], lo, mid, h, hy => by
    obtain ⟨g1, g2, h1, h2, h3, h4, h5, h6⟩ := hy
    have h : lo ≤ mid := h
    exact ⟨hi, ⟨g1, g2, h1, h2, h3, h4, Nat.le_trans h h5, h6⟩, Nat.le_refl _⟩
  | _ :: _, _, _, h, hy => by
    obtain ⟨m, h1, h2⟩ := h
    exact ⟨m, h1, Lay.snoc h2 hy⟩
theorem Lay.below {w w' : World} (hb : Below w.heap.size w w') : ∀ {L : List Oj} {lo hi : Nat}, Lay w lo L hi → Lay w' lo L hi
  | [], _, _, h => h
  | _ :: _, _, _, h => by
    obtain ⟨m, h1, h2⟩ := h
    exact ⟨m, h1.below hb, Lay.below hb h2⟩
theorem Lay.put {w : World} {p : Nat} (j : Nat) (u : Value) : ∀ {L : List Oj} {lo hi : Nat}, Lay w lo L hi → p < lo → Lay (w.setCell ⟨p, j, none⟩ u) lo L hi
  | [], _, _, h, _ => h
  | _ :: _, _, _, h, hp => by
    obtain ⟨m, h1, h2⟩ := h
    exact ⟨m, h1.put hp j u, Lay.put j u h2 (Nat.lt_of_lt_of_le hp h1.le)⟩
theorem Mk.wider {lo hi lo' hi' : Nat} {w w' : World} (h : Mk lo hi w w') (h1 : lo' ≤ lo) (h2 : hi ≤ hi') : Mk lo' hi' w w' :=
  ⟨h.os, h.tape, h.output, h.size, fun b hb ho => h.block b hb (ho.elim (fun q => .inl (by omega)) (fun q => .inr (by omega))), h.shape⟩
set_option maxRecDepth 100000 in
set_option maxHeartbeats 2000000 in
theorem toObjectS_lay (w : World) (B : Nat) (a : Option Addr) (c n : Nat) (l : List Oj) (hn : n = l.length) (h : Objs w B a l) (hB : B ≤ w.heap.size) (hlen : n ≤ 1048576) (hl : ∀ y ∈ l, y.short) :
    Calls Try.prog 21 #[.slice a n c] w fun e w' => ∃ l' : List Oj, l'.map Oj.o = l.map Oj.o ∧ e = .returned (.slice (some ⟨w.heap.size, 0, none⟩) n n) ∧ Objs w' w'.heap.size (some ⟨w.heap.size, 0, none⟩) l' ∧ Below w.heap.size w w' ∧ Lay w' (w.heap.size + 1) l' w'.heap.size ∧ (∃ cs, Has w' w.heap.size 29 cs ∧ FilledO cs n l') ∧ w.heap.size < w'.heap.size := by
  have HN := hidden hn
  have H1 := hidden h
  have HL := hidden hl
  have hst : FilledO (madeCells (Value.agg #[.slice none 0 0, .slice none 0 0]).cells (n * 2)) n [] := ⟨by rw [size_madeCells], fun i f hi => by simp at hi⟩
  have HF := hidden hst
  have hmk := fun W => run_make_k (P := Try.prog) 23 29 _ 2 48 Try.underlying23 Try.info_object .i64 .i64 n (by omega) (by omega) W
  clear hn h hl hst
  go_enter Try.func21, Try.ntmps21
  go_wp2
  go_loopw [4] (fun i wr => ∃ (k : Nat) (cs : Array Value) (l' : List Oj), k ≤ n ∧ i = .int .i64 k ∧ Hid (l'.map Oj.o = (l.take k).map Oj.o) ∧ Hid (FilledO cs n l') ∧ Has wr w.heap.size 29 cs ∧ Hid (∀ y ∈ l', FarO w.heap.size wr y) ∧ Hid (Lay wr (w.heap.size + 1) l' wr.heap.size) ∧ Below w.heap.size w wr) (fun i _ => n - (intOf i).toNat)
  case atStart => exact ⟨0, _, [], Nat.zero_le _, rfl, hidden rfl, HF, Has.new _ _ _, hidden (by simp), hidden (by show _ ≤ _; simp), (Below.refl _ _).alloc (Nat.le_refl _) _⟩
  case round =>
    obtain ⟨k, cs, l', hk, rfl, hm, hf, hh, hfar, hlay, hb⟩ := hrel
    clear hmk HF
    by_cases hlt : k < n
    · have hkl : k < l.length := by rw [← HN.out]; exact hlt
      have hl' : l'.length = k := by
        have := congrArg List.length hm.out
        rw [List.length_map, List.length_map, List.length_take] at this
        omega
      obtain ⟨b1, o1, rfl, _, p0, p1⟩ := (H1.out.below (hb.mono hB)).at_ hkl
      obtain ⟨y, hy⟩ : ∃ y, l[k] = y := ⟨_, rfl⟩
      rw [hy] at p0 p1
      have hmem : y ∈ l := by rw [← hy]; exact List.getElem_mem hkl
      have HM2 : Hid (l.take (k + 1) = l.take k ++ [y]) := by show _ = _; rw [List.take_add_one, List.getElem?_eq_getElem hkl, hy]; rfl
      have hsh := HL.out y hmem
      have HC := hidden (toObject_any wr B y.a1 y.a2 y.c1 y.c2 _ _ y.l y.ms rfl rfl ((H1.out.secs y hmem).below (hb.mono hB)) ((H1.out.syms y hmem).below (hb.mono hB)) (Nat.le_trans hB hb.size) hsh.1.1 hsh.2.1 hsh.1.2)
      unfold TookO at HC
      have HFF := hf
      have HH := hidden hh
      have hlw := hh.lt
      have HLL := hidden hl'
      clear hy hf hh hkl hmem hsh hl'
      have hi : (k : Int) < (n : Int) := by omega
      go_wp2_with fail
      refine HC.out.mono ?_
      clear HC p0 p1
      rintro e w2 ⟨ls, g1, g2, hls, rfl, hS2, hM2, hb2, hg1, hg2, hF2, hc1, hc2⟩
      have hlsl : ls.length = y.l.length := by
        have := congrArg List.length hls
        rwa [List.length_map, List.length_map] at this
      have hh2 : Has w2 w.heap.size 29 cs := HH.out.below hb2 HH.out.lt
      have hcs : k * 2 + 1 < cs.size := by rw [HFF.out.1]; omega
      obtain ⟨v0, hv0⟩ : ∃ v, cs[k * 2]? = some v := ⟨_, Array.getElem?_eq_getElem (by omega)⟩
      obtain ⟨v1, hv1⟩ : ∃ v, cs[k * 2 + 1]? = some v := ⟨_, Array.getElem?_eq_getElem (by omega)⟩
      have e0 := (hh2.cell (k * 2)).trans hv0
      have e1 := (hh2.cell (k * 2 + 1)).trans hv1
      have f0 := hh2.free (k * 2)
      have f1 := hh2.free (k * 2 + 1)
      have hb3 : Below w.heap.size w w2 := hb.trans (hb2.mono hb.size)
      obtain ⟨n1, hn1⟩ : ∃ q, y.l.length = q := ⟨_, rfl⟩
      obtain ⟨n2, hn2⟩ : ∃ q, y.ms.length = q := ⟨_, rfl⟩
      rw [hn1] at hc1
      rw [hn2] at hc2
      have hln : ls.length = n1 := hlsl.trans hn1
      have HY : Hid (FarO w.heap.size w2 ⟨ls, y.ms, some ⟨g1, 0, none⟩, n1, some ⟨g2, 0, none⟩, n2⟩) := ⟨g1, g2, rfl, hln.symm, rfl, hn2.symm, by omega, hg2, hS2, hM2, hF2, by rw [hln]; exact hc1, by rw [hn2]; exact hc2⟩
      have HFAR : Hid (∀ z ∈ l' ++ [⟨ls, y.ms, some ⟨g1, 0, none⟩, n1, some ⟨g2, 0, none⟩, n2⟩], FarO w.heap.size ((w2.setCell ⟨w.heap.size, k * 2, none⟩ (.slice (some ⟨g1, 0, none⟩) n1 n1)).setCell ⟨w.heap.size, k * 2 + 1, none⟩ (.slice (some ⟨g2, 0, none⟩) n2 n2)) z) := fun z hz => by
        rcases List.mem_append.1 hz with h | h
        · exact ((((hfar.out z h).below hb2).put (Nat.le_refl _) _ _).put (Nat.le_refl _) _ _)
        · simp only [List.mem_singleton] at h; subst h; exact (HY.out.put (Nat.le_refl _) _ _).put (Nat.le_refl _) _ _
      have HLAY : Hid (Lay ((w2.setCell ⟨w.heap.size, k * 2, none⟩ (.slice (some ⟨g1, 0, none⟩) n1 n1)).setCell ⟨w.heap.size, k * 2 + 1, none⟩ (.slice (some ⟨g2, 0, none⟩) n2 n2)) (w.heap.size + 1) (l' ++ [⟨ls, y.ms, some ⟨g1, 0, none⟩, n1, some ⟨g2, 0, none⟩, n2⟩]) ((w2.setCell ⟨w.heap.size, k * 2, none⟩ (.slice (some ⟨g1, 0, none⟩) n1 n1)).setCell ⟨w.heap.size, k * 2 + 1, none⟩ (.slice (some ⟨g2, 0, none⟩) n2 n2)).heap.size) := by
        have hj : FarJ wr.heap.size w2.heap.size w2 ⟨ls, y.ms, some ⟨g1, 0, none⟩, n1, some ⟨g2, 0, none⟩, n2⟩ := FarJ.new (by omega) hg2 hln.symm hn2.symm hF2 (by rw [hln]; exact hc1) (by rw [hn2]; exact hc2)
        have h1 := Lay.put (p := w.heap.size) (k * 2 + 1) (.slice (some ⟨g2, 0, none⟩) n2 n2) (Lay.put (p := w.heap.size) (k * 2) (.slice (some ⟨g1, 0, none⟩) n1 n1) (Lay.snoc (Lay.below hb2 hlay.out) hj) (by omega)) (by omega)
        show Lay _ _ _ _
        simpa using h1
      have HN2 : Hid (FilledO ((cs.setIfInBounds (k * 2) (.slice (some ⟨g1, 0, none⟩) n1 n1)).setIfInBounds (k * 2 + 1) (.slice (some ⟨g2, 0, none⟩) n2 n2)) n (l' ++ [⟨ls, y.ms, some ⟨g1, 0, none⟩, n1, some ⟨g2, 0, none⟩, n2⟩])) := by
        have := HFF.out.next HLL.out hlt (Oj.mk ls y.ms (some ⟨g1, 0, none⟩) n1 (some ⟨g2, 0, none⟩) n2)
        unfold putO at this
        simp only [hln, hn2] at this
        exact this
      have HM3 : Hid ((l' ++ [Oj.mk ls y.ms (some ⟨g1, 0, none⟩) n1 (some ⟨g2, 0, none⟩) n2]).map Oj.o = (l.take (k + 1)).map Oj.o) := by
        show _ = _
        rw [HM2.out, List.map_append, List.map_append, hm.out]
        show _ ++ [(ls.map Sp.s, y.ms)] = _ ++ [(y.l.map Sp.s, y.ms)]
        rw [hls]
      have hput : Has ((w2.setCell ⟨w.heap.size, k * 2, none⟩ (.slice (some ⟨g1, 0, none⟩) n1 n1)).setCell ⟨w.heap.size, k * 2 + 1, none⟩ (.slice (some ⟨g2, 0, none⟩) n2 n2)) w.heap.size 29 ((cs.setIfInBounds (k * 2) (.slice (some ⟨g1, 0, none⟩) n1 n1)).setIfInBounds (k * 2 + 1) (.slice (some ⟨g2, 0, none⟩) n2 n2)) := (hh2.put _ _).put _ _
      have hbp : Below w.heap.size w ((w2.setCell ⟨w.heap.size, k * 2, none⟩ (.slice (some ⟨g1, 0, none⟩) n1 n1)).setCell ⟨w.heap.size, k * 2 + 1, none⟩ (.slice (some ⟨g2, 0, none⟩) n2 n2)) := (hb3.setCell (p := ⟨w.heap.size, k * 2, none⟩) (Nat.le_refl _) _).setCell (p := ⟨w.heap.size, k * 2 + 1, none⟩) (Nat.le_refl _) _
      have HP := hidden hput
      have HBP := hidden hbp
      rw [hn1, hn2]
      clear hh2 hcs hv0 hv1 hb hb2 hb3 HFF HH HY hput hbp hfar hlay hls hS2 hM2 hg1 hg2 hF2 hc1 hc2 hlsl hn1 hn2 hln hm HM2
      go_wp2_with fail
      go_roundw
      case rel => exact ⟨k + 1, _, _, by omega, by go_num, HM3, HN2, HP.out, HFAR, HLAY, HBP.out⟩
      case measure => simp [intOf]; omega
    · have hkl : l.take k = l := List.take_of_length_le (by rw [← HN.out]; omega)
      have HA := hidden (hf.out.objs hh hfar.out)
      have HM : Hid (l'.map Oj.o = l.map Oj.o) := by show _ = _; rw [hm.out, hkl]
      have hlt2 := hh.lt
      have HFX := hf
      have hi : ¬ (k : Int) < (n : Int) := by omega
      clear hkl hf hm
      go_wp2
      go_ret
      exact ⟨l', HM.out, rfl, HA.out, hb, hlay.out, ⟨cs, hh, HFX.out⟩, hlt2⟩
theorem partsN_take : ∀ (L : List Oj) (j : Nat), partsN (L.take j) ≤ partsN L
  | [], j => by simp
  | y :: r, 0 => by simp [partsN]
  | y :: r, j + 1 => by
    have := partsN_take r j
    unfold partsN at this ⊢
    simp only [List.take_succ_cons, List.map_cons, List.sum_cons]
    omega
set_option maxRecDepth 100000 in
set_option maxHeartbeats 2000000 in
theorem markObjectS_mk (w : World) (g hi n cap : Nat) (L : List Oj) (cs : Array Value) (k : Int) (hn : n = L.length) (h : Has w g 29 cs) (hx : FilledO cs n L) (hl : Lay w (g + 1) L hi) (hs : ∀ y ∈ L, y.short) (hp : partsN L ≤ 1048576) (hnn : n ≤ 1048576) (hk : 0 ≤ k) (hb : k ≤ 1048576) :
    Calls Try.prog 24 #[.slice (some ⟨g, 0, none⟩) n cap, .int .i64 k] w fun e w' => ∃ r : Int, e = .returned (.int .i64 r) ∧ 0 ≤ r ∧ r ≤ 17592186044416 ∧ Mk (g + 1) hi w w' := by
  have HN := hidden hn
  have HX := hidden hx
  have HS := hidden hs
  have HP := hidden hp
  have HH := hidden h
  have HL0 : Hid (Lay w (g + 1) (L.drop 0) hi) := hl
  have HP0 : Hid (partsN (L.take 0) = 0) := by show _ = _; simp [partsN]
  have hgl : g + 1 ≤ hi := hl.le
  have hgw := h.lt
  clear hn hx hs hp h hl
  go_enter Try.func24, Try.ntmps24
  go_wp2
  go_loopw [1, 5] (fun m i wr => ∃ (j s : Nat) (x : Int), j ≤ n ∧ i = .int .i64 j ∧ m = .int .i64 x ∧ 0 ≤ x ∧ Hid (x ≤ 1048576 + 8388608 * (partsN (L.take j) : Nat)) ∧ g + 1 ≤ s ∧ s ≤ hi ∧ Hid (Lay w s (L.drop j) hi) ∧ Hid (Mk (g + 1) s w wr)) (fun _ i _ => n - (intOf i).toNat)
  case atStart => exact ⟨0, g + 1, k, by omega, rfl, rfl, hk, hidden (by have := HP0.out; omega), Nat.le_refl _, hgl, HL0, hidden (Mk.refl w)⟩
  case round =>
    obtain ⟨j, s, x, hj, rfl, rfl, hx0, hx1, hs1, hs2, hlay, hmk⟩ := hrel
    clear HL0 HP0
    by_cases hlt : j < n
    · have hi' : (j : Int) < (n : Int) := by omega
      have hjl : j < L.length := by rw [← HN.out]; exact hlt
      obtain ⟨y, hy⟩ : ∃ y, L[j] = y := ⟨_, rfl⟩
      have hy2 : L[j]? = some y := by rw [List.getElem?_eq_getElem hjl, hy]
      have hmem := List.mem_of_getElem? hy2
      have hsh := HS.out y hmem
      have hly := hlay.out
      rw [show L.drop j = y :: L.drop (j + 1) by rw [List.drop_eq_getElem_cons hjl, hy]] at hly
      obtain ⟨mid, hfj, hlr⟩ := hly
      have hmid := hfj.le
      have hmhi := hlr.le
      have hfw := hfj.mkL hmk.out
      obtain ⟨g1, g2, ha1, hc1, ha2, hc2, hg1, hg12, hg2, hfar, hbd, ⟨cs1, hcs1, hfx⟩, ⟨cm, hcm, hcms⟩⟩ := hfw
      obtain ⟨r0, r1⟩ := HX.out.2 j y hy2
      rw [ha1] at r0
      rw [ha2] at r1
      have hhg := HH.out.mkL hmk.out (.inl (by omega))
      have e0 := (hhg.cell (j * 2)).trans r0
      have e1 := (hhg.cell (j * 2 + 1)).trans r1
      obtain ⟨n1, hn1⟩ : ∃ q, y.l.length = q := ⟨_, rfl⟩
      obtain ⟨n2, hn2⟩ : ∃ q, y.ms.length = q := ⟨_, rfl⟩
      rw [hn1] at e0 hfx
      rw [hn2] at e1 hcms
      have hn1s : n1 ≤ 1048576 := by rw [← hn1]; exact hsh.1.1
      have hn2s : n2 ≤ 1048576 := by rw [← hn2]; exact hsh.2.1
      have HPN : Hid (partsN (L.take (j + 1)) = partsN (L.take j) + (n1 + n2)) := by
        show _ = _
        rw [List.take_add_one, hy2]
        show partsN (_ ++ [y]) = _
        rw [partsN_snoc, hn1, hn2]
      have HPL : Hid (partsN (L.take j) ≤ 1048576) := Nat.le_trans (partsN_take L j) HP.out
      have hxx : x ≤ 1152921504606846976 := by have q1 := hx1.out; have q2 := HPL.out; omega
      have HM := hidden (markSectionS_mk wr s mid g1 n1 y.c1 y.l cs1 x hn1.symm hcs1 hfx.keptX hg1 (by omega) hfar hbd hsh.1.2 hn1s hx0 hxx)
      have HCM := hidden hcm
      have HHG := hidden hhg
      have HLR := hidden hlr
      have HCMS := hidden hcms
      have hgs : g < s := by omega
      have hgr : g < wr.heap.size := hhg.lt
      clear hjl hy hy2 hmem hsh hfj hlr hfar hbd hcs1 hfx hcm hcms r0 r1 hhg hn1 hn2 ha1 ha2 hc1 hc2 hlay
      go_wp2_with fail
      refine HM.out.mono ?_
      clear HM e0
      rintro e w2 ⟨r, rfl, hr0, hr1, hm2⟩
      have e1' := (hm2.cell hgr (.inl hgs) (p := ⟨g, j * 2 + 1, none⟩)).trans e1
      obtain ⟨c2, hc2, hc2s⟩ := hm2.shape g2 _ cm HCM.out
      have HSY := hidden (markSymbolS_form w2 g2 n2 y.c2 c2 r hc2 (by rw [hc2s, HCMS.out]) (by omega) (by omega))
      have HC2 := hidden hc2
      have HM2 : Hid (Mk s mid wr w2) := hm2
      clear hm2 hc2 hc2s e1 HCM HCMS HHG
      go_wp2_with fail
      refine HSY.out.mono ?_
      clear HSY
      rintro e w3 ⟨rfl, ⟨c3, hc3, hc3s⟩, hg3⟩
      have HM3 : Hid (Mk (g + 1) mid w w3) := (hmk.out.wider (Nat.le_refl _) hmid).trans ((HM2.out.trans (Mk.of_grown hg3 (by omega) hg2 HC2.out hc3 hc3s)).wider (by omega) (Nat.le_refl _))
      have HX3 : Hid (r + 4 * (n2 : Int) ≤ 1048576 + 8388608 * (partsN (L.take (j + 1)) : Nat)) := by
        show _ ≤ _
        have q1 := hx1.out
        rw [HPN.out]
        omega
      clear hg3 hc3 hc3s e1' hmk hx1 HPN HPL HM2 HC2
      go_wp2_with fail
      go_roundw
      case rel => exact ⟨j + 1, mid, r + 4 * (n2 : Int), by omega, by go_num, rfl, by omega, HX3, by omega, hmhi, HLR, HM3⟩
      case measure => simp [intOf]; omega
    · have hi' : ¬ (j : Int) < (n : Int) := by omega
      have hxf : x ≤ 17592186044416 := by
        have q1 := hx1.out
        have q2 := Nat.le_trans (partsN_take L j) HP.out
        omega
      have HMF := hidden (hmk.out.wider (Nat.le_refl _) hs2)
      clear hx1 hmk hlay
      go_wp2_with fail
      go_ret
      exact ⟨x, rfl, hx0, hxf, HMF.out⟩

end Go.Proofs.Ytiocchmlmcoieaa

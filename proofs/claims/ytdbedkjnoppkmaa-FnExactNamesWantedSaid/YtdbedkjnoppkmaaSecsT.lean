/-
  Sections in a list: toSectionS. Sections in a list: eqSectionS.
-/
import Derived.Test.YtdbedkjnoppkmaaSecs
/- Sections in a list: toSectionS. -/
namespace Go.Proofs.Ytdbedkjnoppkmaa
open Go.RowKit

/-- The first cells of a row of sections are these sections'. -/
def FilledX (cs : Array Value) (n : Nat) (l : List Sp) : Prop := cs.size = n * 6 ∧ ∀ i y, l[i]? = some y → cs[i * 6]? = some (.string y.s.name) ∧ cs[i * 6 + 1]? = some (.int .i64 y.s.kind) ∧ cs[i * 6 + 2]? = some (.int .i64 y.s.align) ∧ cs[i * 6 + 3]? = some (.slice y.a1 y.s.bytes.length y.c1) ∧ cs[i * 6 + 4]? = some (.int .i64 y.s.size) ∧ cs[i * 6 + 5]? = some (.slice y.a2 y.s.fixs.length y.c2)
def putX (cs : Array Value) (k : Nat) (y : Sp) : Array Value := ((((((cs.setIfInBounds (k * 6) (.string y.s.name)).setIfInBounds (k * 6 + 1) (.int .i64 y.s.kind)).setIfInBounds (k * 6 + 2) (.int .i64 y.s.align)).setIfInBounds (k * 6 + 3) (.slice y.a1 y.s.bytes.length y.c1)).setIfInBounds (k * 6 + 4) (.int .i64 y.s.size)).setIfInBounds (k * 6 + 5) (.slice y.a2 y.s.fixs.length y.c2))
def setX (w : World) (g k : Nat) (y : Sp) : World := ((((((w.setCell ⟨g, k * 6, none⟩ (.string y.s.name)).setCell ⟨g, k * 6 + 1, none⟩ (.int .i64 y.s.kind)).setCell ⟨g, k * 6 + 2, none⟩ (.int .i64 y.s.align)).setCell ⟨g, k * 6 + 3, none⟩ (.slice y.a1 y.s.bytes.length y.c1)).setCell ⟨g, k * 6 + 4, none⟩ (.int .i64 y.s.size)).setCell ⟨g, k * 6 + 5, none⟩ (.slice y.a2 y.s.fixs.length y.c2))
theorem FilledX.next {cs : Array Value} {n k : Nat} {l : List Sp} (h : FilledX cs n l) (hl : l.length = k) (hk : k < n) (y : Sp) : FilledX (putX cs k y) n (l ++ [y]) := by
  have hs := h.1
  refine ⟨by simp [putX, hs], fun i z hz => ?_⟩
  unfold putX
  simp only [Array.getElem?_setIfInBounds, Array.size_setIfInBounds, hs]
  by_cases e : i = k
  · subst e
    rw [List.getElem?_append_right (by omega), hl, Nat.sub_self] at hz
    simp at hz
    subst hz
    refine ⟨?_, ?_, ?_, ?_, ?_, ?_⟩ <;> simp <;> omega
  · have hi : i < k := by
      have := (List.getElem?_eq_some_iff.1 hz).1
      rw [List.length_append] at this
      simp at this
      omega
    rw [List.getElem?_append_left (by omega)] at hz
    obtain ⟨c0, c1, c2, c3, c4, c5⟩ := h.2 i z hz
    refine ⟨?_, ?_, ?_, ?_, ?_, ?_⟩
    · rw [if_neg (by omega), if_neg (by omega), if_neg (by omega), if_neg (by omega), if_neg (by omega), if_neg (by omega)]; exact c0
    · rw [if_neg (by omega), if_neg (by omega), if_neg (by omega), if_neg (by omega), if_neg (by omega), if_neg (by omega)]; exact c1
    · rw [if_neg (by omega), if_neg (by omega), if_neg (by omega), if_neg (by omega), if_neg (by omega), if_neg (by omega)]; exact c2
    · rw [if_neg (by omega), if_neg (by omega), if_neg (by omega), if_neg (by omega), if_neg (by omega), if_neg (by omega)]; exact c3
    · rw [if_neg (by omega), if_neg (by omega), if_neg (by omega), if_neg (by omega), if_neg (by omega), if_neg (by omega)]; exact c4
    · rw [if_neg (by omega), if_neg (by omega), if_neg (by omega), if_neg (by omega), if_neg (by omega), if_neg (by omega)]; exact c5
/-- A section all of whose lists lie behind a block. -/
def Far (g : Nat) (w : World) (y : Sp) : Prop :=
  ∃ b1 b2, y.a1 = some ⟨b1, 0, none⟩ ∧ y.a2 = some ⟨b2, 0, none⟩ ∧ g < b1 ∧ g < b2 ∧ Ints w .u8 w.heap.size y.a1 y.s.bytes ∧ Fixs w w.heap.size y.a2 y.s.fixs ∧ (∃ cb, Has w b1 5 cb ∧ cb.size = y.s.bytes.length) ∧ (∃ cf, Has w b2 94 cf ∧ cf.size = y.s.fixs.length * 4)
theorem Far.below {g : Nat} {w w' : World} {y : Sp} (h : Far g w y) (hb : Below w.heap.size w w') : Far g w' y := by
  obtain ⟨b1, b2, h1, h2, h3, h4, h5, h6, ⟨cb, k1, k2⟩, ⟨cf, k3, k4⟩⟩ := h
  exact ⟨b1, b2, h1, h2, h3, h4, (h5.below hb).more hb.size, (h6.below hb).more hb.size, ⟨cb, k1.below hb k1.lt, k2⟩, ⟨cf, k3.below hb k3.lt, k4⟩⟩
theorem Ints.put' {w : World} {k : IntKind} {B b g : Nat} {l : List Int} (h : Ints w k B (some ⟨b, 0, none⟩) l) (hp : b ≠ g) (j : Nat) (u : Value) : Ints (w.setCell ⟨g, j, none⟩ u) k B (some ⟨b, 0, none⟩) l :=
  ⟨h.1, fun hn => by
    obtain ⟨b', off, ha, hb, hc⟩ := h.2 hn
    injection ha with ha
    injection ha with e1 e2
    subst e1; subst e2
    exact ⟨b, 0, rfl, hb, fun i hi => (World.cell?_of_block (Below.heap_setCell w ⟨g, j, none⟩ u b hp)).trans (hc i hi)⟩⟩
theorem Far.put {g : Nat} {w : World} {y : Sp} (h : Far g w y) (j : Nat) (u : Value) : Far g (w.setCell ⟨g, j, none⟩ u) y := by
  obtain ⟨b1, b2, h1, h2, h3, h4, h5, h6, ⟨cb, k1, k2⟩, ⟨cf, k3, k4⟩⟩ := h
  have hs : (w.setCell ⟨g, j, none⟩ u).heap.size = w.heap.size := by simp
  rw [h1] at h5
  rw [h2] at h6
  refine ⟨b1, b2, h1, h2, h3, h4, ?_, ?_, ⟨cb, k1.away (p := ⟨g, j, none⟩) (by show b1 ≠ g; omega) u, k2⟩, ⟨cf, k3.away (p := ⟨g, j, none⟩) (by show b2 ≠ g; omega) u, k4⟩⟩
  · rw [h1, hs]; exact h5.put' (by omega) j u
  · rw [h2, hs]; exact h6.set (p := ⟨g, j, none⟩) (by show b2 ≠ g; omega) u
theorem Far.setX {g k : Nat} {w : World} {y z : Sp} (h : Far g w z) : Far g (setX w g k y) z := (((((h.put _ _).put _ _).put _ _).put _ _).put _ _).put _ _
theorem below_setX {w w' : World} {B g : Nat} (h : Below B w w') (hg : B ≤ g) (k : Nat) (y : Sp) : Below B w (setX w' g k y) :=
  ((((((h.setCell (p := ⟨g, k * 6, none⟩) hg (.string y.s.name)).setCell (p := ⟨g, k * 6 + 1, none⟩) hg (.int .i64 y.s.kind)).setCell (p := ⟨g, k * 6 + 2, none⟩) hg (.int .i64 y.s.align)).setCell (p := ⟨g, k * 6 + 3, none⟩) hg (.slice y.a1 y.s.bytes.length y.c1)).setCell (p := ⟨g, k * 6 + 4, none⟩) hg (.int .i64 y.s.size)).setCell (p := ⟨g, k * 6 + 5, none⟩) hg (.slice y.a2 y.s.fixs.length y.c2))
theorem FilledX.sects {cs : Array Value} {n g : Nat} {w : World} {l : List Sp} (h : FilledX cs n l) (hh : Has w g 61 cs) (hf : ∀ y ∈ l, Far g w y) : Sects w w.heap.size (some ⟨g, 0, none⟩) l :=
  ⟨fun _ => ⟨g, 0, rfl, hh.lt, fun i y hi => by
    obtain ⟨c0, c1, c2, c3, c4, c5⟩ := h.2 i y hi
    rw [Nat.zero_add]
    exact ⟨(hh.cell _).trans c0, (hh.cell _).trans c1, (hh.cell _).trans c2, (hh.cell _).trans c3, (hh.cell _).trans c4, (hh.cell _).trans c5⟩⟩,
   fun y hy => (hf y hy).elim fun _ ⟨_, _, _, _, _, h5, _⟩ => h5, fun y hy => (hf y hy).elim fun _ ⟨_, _, _, _, _, _, h6, _⟩ => h6⟩
theorem Try.info_section : (Try.prog.info? 61).map (fun i => (i.zero, i.size, i.bytes)) = some (some (.agg #[.string ⟨#[]⟩, .int .i64 0, .int .i64 0, .slice none 0 0, .int .i64 0, .slice none 0 0]), 6, 88) := by kernel_rfl
set_option maxRecDepth 100000 in
set_option maxHeartbeats 2000000 in
theorem toSectionS_far (w : World) (B : Nat) (a : Option Addr) (c n : Nat) (l : List Sp) (hn : n = l.length) (h : Sects w B a l) (hB : B ≤ w.heap.size) (hlen : n ≤ 1048576) (hl : ∀ y ∈ l, y.s.short) :
    Calls Try.prog 25 #[.slice a n c] w fun e w' => ∃ l' : List Sp, l'.map Sp.s = l.map Sp.s ∧ e = .returned (.slice (some ⟨w.heap.size, 0, none⟩) n n) ∧ Sects w' w'.heap.size (some ⟨w.heap.size, 0, none⟩) l' ∧ Below w.heap.size w w' ∧ (∀ y ∈ l', Far w.heap.size w' y) ∧ (∃ cs, Has w' w.heap.size 61 cs ∧ FilledX cs n l') ∧ w.heap.size < w'.heap.size := by
  have HN := hidden hn
  have H1 := hidden h
  have HL := hidden hl
  have hst : FilledX (madeCells (Value.agg #[.string ⟨#[]⟩, .int .i64 0, .int .i64 0, .slice none 0 0, .int .i64 0, .slice none 0 0]).cells (n * 6)) n [] := ⟨by rw [size_madeCells], fun i f hi => by simp at hi⟩
  have HF := hidden hst
  have hmk := fun W => run_make_k (P := Try.prog) 25 61 _ 6 88 Try.underlying25 Try.info_section .i64 .i64 n (by omega) (by omega) W
  clear hn h hl hst
  go_enter Try.func25, Try.ntmps25
  go_wp2
  go_loopw [4] (fun i wr => ∃ (k : Nat) (cs : Array Value) (l' : List Sp), k ≤ n ∧ i = .int .i64 k ∧ Hid (l'.map Sp.s = (l.take k).map Sp.s) ∧ Hid (FilledX cs n l') ∧ Has wr w.heap.size 61 cs ∧ Hid (∀ y ∈ l', Far w.heap.size wr y) ∧ Below w.heap.size w wr) (fun i _ => n - (intOf i).toNat)
  case atStart => exact ⟨0, _, [], Nat.zero_le _, rfl, hidden rfl, HF, Has.new _ _ _, hidden (by simp), (Below.refl _ _).alloc (Nat.le_refl _) _⟩
  case round =>
    obtain ⟨k, cs, l', hk, rfl, hm, hf, hh, hfar, hb⟩ := hrel
    clear hmk HF
    by_cases hlt : k < n
    · have hkl : k < l.length := by rw [← HN.out]; exact hlt
      have hl' : l'.length = k := by
        have := congrArg List.length hm.out
        rw [List.length_map, List.length_map, List.length_take] at this
        omega
      obtain ⟨b1, o1, rfl, _, p0, p1, p2, p3, p4, p5⟩ := (H1.out.below (hb.mono hB)).at_ hkl
      obtain ⟨y, hy⟩ : ∃ y, l[k] = y := ⟨_, rfl⟩
      rw [hy] at p0 p1 p2 p3 p4 p5
      have hmem : y ∈ l := by rw [← hy]; exact List.getElem_mem hkl
      have HM2 : Hid (l.take (k + 1) = l.take k ++ [y]) := by show _ = _; rw [List.take_add_one, List.getElem?_eq_getElem hkl, hy]; rfl
      have hsh := HL.out y hmem
      have HC := hidden (toSection_far wr B y.s y.a1 y.c1 y.a2 y.c2 ((H1.out.bytes y hmem).below (hb.mono hB)) ((H1.out.fixs y hmem).below (hb.mono hB)) (Nat.le_trans hB hb.size) hsh.2.1 hsh.2.2)
      unfold Sx.agg at HC
      have HFF := hf
      have HH := hidden hh
      have hlw := hh.lt
      have HLL := hidden hl'
      clear hy hf hh hkl hmem hsh hl'
      have hi : (k : Int) < (n : Int) := by omega
      go_wp2_with fail
      refine HC.out.mono ?_
      clear HC p0 p1 p2 p3 p4 p5
      rintro e w2 ⟨g1, g2, n1, n2, rfl, hi1, hx2, hb2, hg1, hg2, hw1, cf, hw2, hwn⟩
      have hh2 : Has w2 w.heap.size 61 cs := HH.out.below hb2 HH.out.lt
      have hcs : k * 6 + 5 < cs.size := by rw [HFF.out.1]; omega
      obtain ⟨v0, hv0⟩ : ∃ v, cs[k * 6]? = some v := ⟨_, Array.getElem?_eq_getElem (by omega)⟩
      obtain ⟨v1, hv1⟩ : ∃ v, cs[k * 6 + 1]? = some v := ⟨_, Array.getElem?_eq_getElem (by omega)⟩
      obtain ⟨v2, hv2⟩ : ∃ v, cs[k * 6 + 2]? = some v := ⟨_, Array.getElem?_eq_getElem (by omega)⟩
      obtain ⟨v3, hv3⟩ : ∃ v, cs[k * 6 + 3]? = some v := ⟨_, Array.getElem?_eq_getElem (by omega)⟩
      obtain ⟨v4, hv4⟩ : ∃ v, cs[k * 6 + 4]? = some v := ⟨_, Array.getElem?_eq_getElem (by omega)⟩
      obtain ⟨v5, hv5⟩ : ∃ v, cs[k * 6 + 5]? = some v := ⟨_, Array.getElem?_eq_getElem (by omega)⟩
      have e0 := (hh2.cell (k * 6)).trans hv0
      have e1 := (hh2.cell (k * 6 + 1)).trans hv1
      have e2 := (hh2.cell (k * 6 + 2)).trans hv2
      have e3 := (hh2.cell (k * 6 + 3)).trans hv3
      have e4 := (hh2.cell (k * 6 + 4)).trans hv4
      have e5 := (hh2.cell (k * 6 + 5)).trans hv5
      have f0 := hh2.free (k * 6)
      have f1 := hh2.free (k * 6 + 1)
      have f2 := hh2.free (k * 6 + 2)
      have f3 := hh2.free (k * 6 + 3)
      have f4 := hh2.free (k * 6 + 4)
      have f5 := hh2.free (k * 6 + 5)
      have hb3 : Below w.heap.size w w2 := hb.trans (hb2.mono hb.size)
      have HY : Hid (Far w.heap.size w2 ⟨y.s, some ⟨g1, 0, none⟩, n1, some ⟨g2, 0, none⟩, n2⟩) := ⟨g1, g2, rfl, rfl, by omega, by omega, hi1, hx2, ⟨_, hw1, by simp⟩, ⟨cf, hw2, hwn⟩⟩
      have HFAR : Hid (∀ z ∈ l' ++ [⟨y.s, some ⟨g1, 0, none⟩, n1, some ⟨g2, 0, none⟩, n2⟩], Far w.heap.size (setX w2 w.heap.size k ⟨y.s, some ⟨g1, 0, none⟩, n1, some ⟨g2, 0, none⟩, n2⟩) z) := fun z hz => by
        rcases List.mem_append.1 hz with h | h
        · exact ((hfar.out z h).below hb2).setX
        · simp only [List.mem_singleton] at h; subst h; exact HY.out.setX
      have HN2 := hidden (HFF.out.next HLL.out hlt (Sp.mk y.s (some ⟨g1, 0, none⟩) n1 (some ⟨g2, 0, none⟩) n2))
      have HM3 : Hid ((l' ++ [Sp.mk y.s (some ⟨g1, 0, none⟩) n1 (some ⟨g2, 0, none⟩) n2]).map Sp.s = (l.take (k + 1)).map Sp.s) := by
        show _ = _
        rw [HM2.out, List.map_append, List.map_append, hm.out]; rfl
      have hput : Has (setX w2 w.heap.size k ⟨y.s, some ⟨g1, 0, none⟩, n1, some ⟨g2, 0, none⟩, n2⟩) w.heap.size 61 (putX cs k ⟨y.s, some ⟨g1, 0, none⟩, n1, some ⟨g2, 0, none⟩, n2⟩) :=
        (((((hh2.put _ _).put _ _).put _ _).put _ _).put _ _).put _ _
      have hbp : Below w.heap.size w (setX w2 w.heap.size k ⟨y.s, some ⟨g1, 0, none⟩, n1, some ⟨g2, 0, none⟩, n2⟩) := below_setX hb3 (Nat.le_refl _) k _
      have HP := hidden hput
      have HBP := hidden hbp
      clear hh2 hcs hv0 hv1 hv2 hv3 hv4 hv5 hb hb2 hb3 HFF HH HY hput hbp hi1 hx2 hfar hw1 hw2 hwn
      go_wp2_with fail
      go_roundw
      case rel => exact ⟨k + 1, _, _, by omega, by go_num, HM3, HN2, HP.out, HFAR, HBP.out⟩
      case measure => simp [intOf]; omega
    · have hkl : l.take k = l := List.take_of_length_le (by rw [← HN.out]; omega)
      have HA := hidden (hf.out.sects hh hfar.out)
      have HM : Hid (l'.map Sp.s = l.map Sp.s) := by show _ = _; rw [hm.out, hkl]
      have hlt2 := hh.lt
      have HFX := hf
      have hi : ¬ (k : Int) < (n : Int) := by omega
      clear hkl hf hm
      go_wp2
      go_ret
      exact ⟨l', HM.out, rfl, HA.out, hb, hfar.out, ⟨cs, hh, HFX.out⟩, hlt2⟩
theorem toSectionS_any (w : World) (B : Nat) (a : Option Addr) (c n : Nat) (l : List Sp) (hn : n = l.length) (h : Sects w B a l) (hB : B ≤ w.heap.size) (hlen : n ≤ 1048576) (hl : ∀ y ∈ l, y.s.short) :
    Calls Try.prog 25 #[.slice a n c] w fun e w' => ∃ l' : List Sp, l'.map Sp.s = l.map Sp.s ∧ e = .returned (.slice (some ⟨w.heap.size, 0, none⟩) n n) ∧ Sects w' w'.heap.size (some ⟨w.heap.size, 0, none⟩) l' ∧ Below w.heap.size w w' :=
  (toSectionS_far w B a c n l hn h hB hlen hl).mono fun _ _ ⟨l', h1, h2, h3, h4, _⟩ => ⟨l', h1, h2, h3, h4⟩
/-- A write ahead of the sections leaves them. -/
theorem Sects.put {w : World} {g : Nat} {l : List Sp} (h : Sects w w.heap.size (some ⟨g, 0, none⟩) l) (hf : ∀ y ∈ l, Far g w y) {p : Nat} (hp : p < g) (j : Nat) (u : Value) :
    Sects (w.setCell ⟨p, j, none⟩ u) (w.setCell ⟨p, j, none⟩ u).heap.size (some ⟨g, 0, none⟩) l := by
  have hs : (w.setCell ⟨p, j, none⟩ u).heap.size = w.heap.size := by simp
  have far : ∀ y ∈ l, Ints (w.setCell ⟨p, j, none⟩ u) .u8 (w.setCell ⟨p, j, none⟩ u).heap.size y.a1 y.s.bytes ∧ Fixs (w.setCell ⟨p, j, none⟩ u) (w.setCell ⟨p, j, none⟩ u).heap.size y.a2 y.s.fixs := fun y hy => by
    obtain ⟨b1, b2, h1, h2, h3, h4, h5, h6, ⟨cb, k1, k2⟩, ⟨cf, k3, k4⟩⟩ := hf y hy
    rw [h1] at h5
    rw [h2] at h6
    rw [h1, h2, hs]
    exact ⟨h5.put' (by omega) j u, h6.set (p := ⟨p, j, none⟩) (by show b2 ≠ p; omega) u⟩
  refine ⟨fun hn => ?_, fun y hy => (far y hy).1, fun y hy => (far y hy).2⟩
  obtain ⟨b, off, ha, hb, hc⟩ := h.row hn
  injection ha with ha
  injection ha with e1 e2
  subst e1; subst e2
  exact ⟨g, 0, rfl, by rw [hs]; exact hb, fun i y hi => (hc i y hi).keep fun _ => World.cell?_of_block (Below.heap_setCell w ⟨p, j, none⟩ u g (by show g ≠ p; omega))⟩
theorem Far.putLow {g : Nat} {w : World} {y : Sp} (h : Far g w y) {p : Nat} (hp : p < g) (j : Nat) (u : Value) : Far g (w.setCell ⟨p, j, none⟩ u) y := by
  obtain ⟨b1, b2, h1, h2, h3, h4, h5, h6, ⟨cb, k1, k2⟩, ⟨cf, k3, k4⟩⟩ := h
  have hs : (w.setCell ⟨p, j, none⟩ u).heap.size = w.heap.size := by simp
  rw [h1] at h5
  rw [h2] at h6
  refine ⟨b1, b2, h1, h2, h3, h4, ?_, ?_, ⟨cb, k1.away (p := ⟨p, j, none⟩) (by show b1 ≠ p; omega) u, k2⟩, ⟨cf, k3.away (p := ⟨p, j, none⟩) (by show b2 ≠ p; omega) u, k4⟩⟩
  · rw [h1, hs]; exact h5.put' (by omega) j u
  · rw [h2, hs]; exact h6.set (p := ⟨p, j, none⟩) (by show b2 ≠ p; omega) u

end Go.Proofs.Ytdbedkjnoppkmaa
/- Sections in a list: eqSectionS. -/
namespace Go.Proofs.Ytdbedkjnoppkmaa
open Go.RowKit

set_option maxRecDepth 100000 in
set_option maxHeartbeats 2000000 in
theorem eqSectionS_yes (w : World) (B1 B2 : Nat) (a1 a2 : Option Addr) (c1 c2 n : Nat) (l1 l2 : List Sp) (hm : l1.map Sp.s = l2.map Sp.s) (hn : n = l1.length) (h1 : Sects w B1 a1 l1) (h2 : Sects w B2 a2 l2) (hB1 : B1 ≤ w.heap.size) (hB2 : B2 ≤ w.heap.size) (hlen : n ≤ 9223372036854775807) (hl : ∀ y ∈ l1, y.s.lens) :
    Calls Try.prog 26 #[.slice a1 n c1, .slice a2 n c2] w fun e w' => e = .returned (.bool true) ∧ Below w.heap.size w w' := by
  have HM := hidden hm
  have HN := hidden hn
  have H1 := hidden h1
  have H2 := hidden h2
  have HL := hidden hl
  have hn2' : n = l2.length := by rw [hn, ← List.length_map (f := Sp.s), hm, List.length_map]
  have HN2 := hidden hn2'
  clear hm hn h1 h2 hl hn2'
  go_enter Try.func26, Try.ntmps26
  go_wp2
  go_loopw [5] (fun i wr => ∃ k : Nat, i = .int .i64 k ∧ k ≤ n ∧ Below w.heap.size w wr) (fun i _ => n - (intOf i).toNat)
  case atStart => exact ⟨0, rfl, by omega, Below.refl _ _⟩
  case round =>
    obtain ⟨k, rfl, hk, hb⟩ := hrel
    by_cases hlt : k < n
    · have hi : (k : Int) < (n : Int) := by omega
      have hkl1 : k < l1.length := by rw [← HN.out]; exact hlt
      have hkl2 : k < l2.length := by rw [← HN2.out]; exact hlt
      obtain ⟨b1, o1, rfl, _, p0, p1, p2, p3, p4, p5⟩ := (H1.out.below (hb.mono hB1)).at_ hkl1
      obtain ⟨b2, o2, rfl, _, q0, q1, q2, q3, q4, q5⟩ := (H2.out.below (hb.mono hB2)).at_ hkl2
      obtain ⟨y, hy⟩ : ∃ y, l1[k] = y := ⟨_, rfl⟩
      obtain ⟨z, hz⟩ : ∃ z, l2[k] = z := ⟨_, rfl⟩
      rw [hy] at p0 p1 p2 p3 p4 p5
      rw [hz] at q0 q1 q2 q3 q4 q5
      have hm1 : y ∈ l1 := by rw [← hy]; exact List.getElem_mem hkl1
      have hm2 : z ∈ l2 := by rw [← hz]; exact List.getElem_mem hkl2
      have hyz : z.s = y.s := by
        have e : (l1.map Sp.s)[k]? = (l2.map Sp.s)[k]? := by rw [HM.out]
        rw [List.getElem?_map, List.getElem?_map, List.getElem?_eq_getElem hkl1, List.getElem?_eq_getElem hkl2, hy, hz] at e
        simpa using e.symm
      rw [hyz] at q0 q1 q2 q3 q4 q5
      have k3 := H2.out.bytes z hm2
      have k4 := H2.out.fixs z hm2
      rw [hyz] at k3 k4
      have hyl := HL.out y hm1
      have HC := hidden (eqSection_yes wr.drew B1 B2 y.s y.a1 y.c1 y.a2 y.c2 z.a1 z.c1 z.a2 z.c2 (((H1.out.bytes y hm1).below (hb.mono hB1)).drewN 1) (((H1.out.fixs y hm1).below (hb.mono hB1)).drewN 1) ((k3.below (hb.mono hB2)).drewN 1) ((k4.below (hb.mono hB2)).drewN 1) (Nat.le_trans hB1 hb.size) (Nat.le_trans hB2 hb.size) hyl.2.1 hyl.2.2)
      unfold Sx.agg at HC
      clear hy hz hkl1 hkl2 hm1 hm2 hyz k3 k4 hyl
      go_wp2
      go_still_tail 8, (by kernel_rfl)
      change wpList _ _ _ _ _ wr.drew
      go_wp2_with (go_at_call 54; refine HC.out.mono ?_; rintro e w2 ⟨rfl, hb2⟩)
      have hb3 : Below w.heap.size w w2 := hb.drew.trans (hb2.mono hb.size)
      go_roundw
      case rel => exact ⟨k + 1, by go_num, by omega, hb3⟩
      case measure => simp [intOf]; omega
    · have hi : ¬ (k : Int) < (n : Int) := by omega
      go_wp2
      go_ret
      exact ⟨rfl, hb⟩

end Go.Proofs.Ytdbedkjnoppkmaa

/-
  Objects in a list: what is said of them, and what the laws' functions do with them.
-/
import Derived.Test.YtiocchmlmcoieaaObj
import Derived.BigQuiet
import Derived.Deep.QuietTactic
import Derived.StillTailTactics
namespace Go.Proofs.Ytiocchmlmcoieaa
open Go.RowKit

/-- An object and where its lists lie. -/
structure Oj where
  l : List Sp
  ms : List Sm
  a1 : Option Addr
  c1 : Nat
  a2 : Option Addr
  c2 : Nat
/-- What it says. -/
def Oj.o (y : Oj) : List Sx × List Sm := (y.l.map Sp.s, y.ms)
def ObjAt (w : World) (b o : Nat) (y : Oj) : Prop :=
  w.cell? ⟨b, o, none⟩ = some (.slice y.a1 y.l.length y.c1) ∧ w.cell? ⟨b, o + 1, none⟩ = some (.slice y.a2 y.ms.length y.c2)
/-- The slice at address 'a' holds these objects, below 'B' with all that they lead to. -/
structure Objs (w : World) (B : Nat) (a : Option Addr) (L : List Oj) : Prop where
  row : 0 < L.length → ∃ b off, a = some ⟨b, off, none⟩ ∧ b < B ∧ ∀ i y, L[i]? = some y → ObjAt w b (off + i * 2) y
  secs : ∀ y ∈ L, Sects w B y.a1 y.l
  syms : ∀ y ∈ L, Syms w B y.a2 y.ms
section
variable {w w' : World} {B B' : Nat} {a : Option Addr} {L : List Oj}
theorem ObjAt.keep {b o : Nat} {y : Oj} (h : ObjAt w b o y) (hk : ∀ i, w'.cell? ⟨b, i, none⟩ = w.cell? ⟨b, i, none⟩) : ObjAt w' b o y :=
  ⟨(hk _).trans h.1, (hk _).trans h.2⟩
theorem Objs.below (h : Objs w B a L) (hb : Below B w w') : Objs w' B a L :=
  ⟨fun hn => by
    obtain ⟨b, off, ha, hlt, hc⟩ := h.row hn
    exact ⟨b, off, ha, hlt, fun i y hi => (hc i y hi).keep fun _ => hb.cell hlt⟩, fun y hy => (h.secs y hy).below hb, fun y hy => (h.syms y hy).below hb⟩
theorem Objs.more (h : Objs w B a L) (hB : B ≤ B') : Objs w B' a L :=
  ⟨fun hn => by
    obtain ⟨b, off, ha, hb, hc⟩ := h.row hn
    exact ⟨b, off, ha, by omega, hc⟩, fun y hy => (h.secs y hy).more hB, fun y hy => (h.syms y hy).more hB⟩
theorem Objs.drewN (h : Objs w B a L) (n : Nat) : Objs (w.drewN n) B a L := ⟨h.row, fun y hy => (h.secs y hy).drewN n, fun y hy => (h.syms y hy).drewN n⟩
theorem Objs.nil : Objs w B a [] := ⟨fun h => by simp at h, by simp, by simp⟩
theorem Objs.at_ (h : Objs w B a L) {i : Nat} (hi : i < L.length) : ∃ b off, a = some ⟨b, off, none⟩ ∧ b < B ∧ ObjAt w b (off + i * 2) L[i] := by
  obtain ⟨b, off, ha, hb, hc⟩ := h.row (by omega)
  exact ⟨b, off, ha, hb, hc i _ (List.getElem?_eq_getElem hi)⟩
end
/-- The lengths in an object are lengths of the machine. -/
def Oj.lens (y : Oj) : Prop := y.l.length ≤ 9223372036854775807 ∧ y.ms.length ≤ 9223372036854775807 ∧ (∀ z ∈ y.l, z.s.lens) ∧ ∀ x ∈ y.ms, x.name.size ≤ maxLen
/-- Nothing in an object is long. -/
def Oj.short (y : Oj) : Prop := (y.l.length ≤ 1048576 ∧ ∀ z ∈ y.l, z.s.short) ∧ y.ms.length ≤ 1048576 ∧ ∀ x ∈ y.ms, x.name.size ≤ 1048576
def SizedL (w : World) (L : List Oj) (e : Ending) (w' : World) : Prop :=
  ∃ r : Int, e = .returned (.int .i64 r) ∧ Below w.heap.size w w' ∧ -1 ≤ r ∧ r ≤ 1048576 ∧ (0 ≤ r → L.length ≤ 1048576 ∧ ∀ y ∈ L, y.short)
set_option maxRecDepth 100000 in
set_option maxHeartbeats 1000000 in
theorem szObjectS_any (w : World) (B : Nat) (a : Option Addr) (c n : Nat) (l : List Oj) (hn : n = l.length) (h : Objs w B a l) (hB : B ≤ w.heap.size) (hlen : n ≤ 9223372036854775807) (hl : ∀ y ∈ l, y.lens) (left : Int) (hf0 : 0 ≤ left) (hf1 : left ≤ 1048576) :
    Calls Try.prog 20 #[.slice a n c, .int .i64 left] w (SizedL w l) := by
  have HN := hidden hn
  have H1 := hidden h
  have HL := hidden hl
  clear hn h hl
  by_cases h1 : left - (n : Int) < 0
  · go_enter Try.func20, Try.ntmps20
    go_wp2_with fail
    go_ret
    exact ⟨-1, rfl, Below.refl _ _, by omega, by omega, by omega⟩
  have hn1 : n ≤ 1048576 := by omega
  obtain ⟨l0, hl0⟩ : ∃ q : Int, left - (n : Int) = q := ⟨_, rfl⟩
  have k0 : 0 ≤ l0 := by omega
  have k1 : l0 ≤ 1048576 := by omega
  go_enter Try.func20, Try.ntmps20
  go_wp2_with fail
  go_loopw [5, 1] (fun i lf wr => ∃ (k : Nat) (x : Int), i = .int .i64 k ∧ lf = .int .i64 x ∧ k ≤ n ∧ 0 ≤ x ∧ x ≤ 1048576 ∧ Hid (∀ y ∈ l.take k, y.short) ∧ Below w.heap.size w wr) (fun i _ _ => n - (intOf i).toNat)
  case atStart => exact ⟨0, l0, rfl, by rw [← hl0], by omega, k0, k1, hidden (by simp), Below.refl _ _⟩
  case round =>
    obtain ⟨k, x, rfl, rfl, hk, x0, x1, hs, hb⟩ := hrel
    clear hl0 k0 k1
    by_cases hlt : k < n
    · have hi : (k : Int) < (n : Int) := by omega
      have hkl : k < l.length := by rw [← HN.out]; exact hlt
      obtain ⟨b, off, rfl, _, p0, p1⟩ := (H1.out.below (hb.mono hB)).at_ hkl
      obtain ⟨y, hy⟩ : ∃ y, l[k] = y := ⟨_, rfl⟩
      rw [hy] at p0 p1
      have HY : Hid (l.take (k + 1) = l.take k ++ [y]) := by show _ = _; rw [List.take_add_one, List.getElem?_eq_getElem hkl, hy]; rfl
      have hyl := HL.out y (by rw [← hy]; exact List.getElem_mem hkl)
      have hym : y ∈ l := by rw [← hy]; exact List.getElem_mem hkl
      have HC := hidden (szObject_any wr B y.a1 y.a2 y.c1 y.c2 _ _ y.l y.ms rfl rfl ((H1.out.secs y hym).below (hb.mono hB)) ((H1.out.syms y hym).below (hb.mono hB)) (Nat.le_trans hB hb.size) hyl.1 hyl.2.1 hyl.2.2.1 hyl.2.2.2 x x0 x1)
      clear hy hyl hkl hym
      go_wp2_with fail
      refine HC.out.mono ?_
      clear HC p0 p1
      rintro e w2 ⟨r, rfl, hb2, r0, r1, hr⟩
      have hb3 := hb.trans (hb2.mono hb.size)
      clear hb hb2
      by_cases hneg : r < 0
      · clear hr
        go_wp2_with fail
        go_ret
        exact ⟨-1, rfl, hb3, by omega, by omega, by omega⟩
      have HS : Hid (∀ z ∈ l.take (k + 1), z.short) := fun z hz => by
        rw [HY.out] at hz
        rcases List.mem_append.1 hz with h | h
        · exact hs.out z h
        · simp only [List.mem_singleton] at h; subst h; exact hr (by omega)
      clear hr hs HY
      go_wp2_with fail
      go_roundw
      case rel => exact ⟨k + 1, r, by go_num, rfl, by omega, by omega, r1, HS, hb3⟩
      case measure => simp [intOf]; omega
    · have hi : ¬ (k : Int) < (n : Int) := by omega
      have hfin : Hid (∀ y ∈ l, y.short) := by
        have hkl : l.take k = l := List.take_of_length_le (by rw [← HN.out]; omega)
        rw [← hkl]; exact hs
      clear hs
      go_wp2_with fail
      go_ret
      exact ⟨x, rfl, hb, by omega, x1, fun _ => ⟨by rw [← HN.out]; exact hn1, hfin.out⟩⟩
/-- An object all of whose lists lie behind a block, each whole and alone. -/
def FarO (g : Nat) (w : World) (y : Oj) : Prop :=
  ∃ g1 g2, y.a1 = some ⟨g1, 0, none⟩ ∧ y.c1 = y.l.length ∧ y.a2 = some ⟨g2, 0, none⟩ ∧ y.c2 = y.ms.length ∧ g < g1 ∧ g1 < g2 ∧ Sects w w.heap.size (some ⟨g1, 0, none⟩) y.l ∧ Syms w w.heap.size (some ⟨g2, 0, none⟩) y.ms ∧ (∀ z ∈ y.l, Far g1 w z) ∧ (∃ cs, Has w g1 42 cs ∧ FilledX cs y.l.length y.l) ∧ ∃ cs, Has w g2 82 cs ∧ cs.size = y.ms.length * 4
theorem FarO.below {g : Nat} {w w' : World} {y : Oj} (h : FarO g w y) (hb : Below w.heap.size w w') : FarO g w' y := by
  obtain ⟨g1, g2, h1, h2, h3, h4, h5, h6, h7, h8, h9, ⟨cs, k1, k2⟩, ⟨cm, k3, k4⟩⟩ := h
  exact ⟨g1, g2, h1, h2, h3, h4, h5, h6, (h7.below hb).more hb.size, (h8.below hb).more hb.size, fun z hz => (h9 z hz).below hb, ⟨cs, k1.below hb k1.lt, k2⟩, ⟨cm, k3.below hb k3.lt, k4⟩⟩
theorem FarO.put {g : Nat} {w : World} {y : Oj} (h : FarO g w y) {p : Nat} (hp : p ≤ g) (j : Nat) (u : Value) : FarO g (w.setCell ⟨p, j, none⟩ u) y := by
  obtain ⟨g1, g2, h1, h2, h3, h4, h5, h6, h7, h8, h9, ⟨cs, k1, k2⟩, ⟨cm, k3, k4⟩⟩ := h
  exact ⟨g1, g2, h1, h2, h3, h4, h5, h6, h7.put h9 (by omega) j u, by
    have hs : (w.setCell ⟨p, j, none⟩ u).heap.size = w.heap.size := by simp
    rw [hs]
    exact h8.set (p := ⟨p, j, none⟩) (by show g2 ≠ p; omega) u, fun z hz => (h9 z hz).putLow (by omega) j u, ⟨cs, k1.away (p := ⟨p, j, none⟩) (by show g1 ≠ p; omega) u, k2⟩, ⟨cm, k3.away (p := ⟨p, j, none⟩) (by show g2 ≠ p; omega) u, k4⟩⟩
/-- The first objects stand in a block of cells. -/
def FilledO (cs : Array Value) (n : Nat) (L : List Oj) : Prop := cs.size = n * 2 ∧ ∀ i y, L[i]? = some y → cs[i * 2]? = some (.slice y.a1 y.l.length y.c1) ∧ cs[i * 2 + 1]? = some (.slice y.a2 y.ms.length y.c2)
def putO (cs : Array Value) (k : Nat) (y : Oj) : Array Value := (cs.setIfInBounds (k * 2) (.slice y.a1 y.l.length y.c1)).setIfInBounds (k * 2 + 1) (.slice y.a2 y.ms.length y.c2)
def setO (w : World) (g k : Nat) (y : Oj) : World := (w.setCell ⟨g, k * 2, none⟩ (.slice y.a1 y.l.length y.c1)).setCell ⟨g, k * 2 + 1, none⟩ (.slice y.a2 y.ms.length y.c2)
theorem FilledO.next {cs : Array Value} {n k : Nat} {L : List Oj} (h : FilledO cs n L) (hl : L.length = k) (hk : k < n) (y : Oj) : FilledO (putO cs k y) n (L ++ [y]) := by
  have hsz := h.1
  refine ⟨by unfold putO; simp [h.1], fun i z hi => ?_⟩
  unfold putO
  simp only [Array.getElem?_setIfInBounds, Array.size_setIfInBounds]
  rcases Nat.lt_or_ge i k with h1 | h1
  · rw [List.getElem?_append_left (by omega)] at hi
    obtain ⟨c0, c1⟩ := h.2 i z hi
    refine ⟨?_, ?_⟩
    · rw [if_neg (by omega), if_neg (by omega)]; exact c0
    · rw [if_neg (by omega), if_neg (by omega)]; exact c1
  · have hil := (List.getElem?_eq_some_iff.1 hi).1
    rw [List.length_append, List.length_singleton] at hil
    have hik : i = k := by omega
    subst hik
    rw [List.getElem?_append_right (by omega), hl, Nat.sub_self] at hi
    simp only [List.getElem?_cons_zero, Option.some.injEq] at hi
    subst hi
    refine ⟨?_, ?_⟩
    · rw [if_neg (by omega), if_pos rfl, if_pos (by omega)]
    · rw [if_pos rfl, if_pos (by omega)]
theorem below_setO {w w' : World} {B g : Nat} (h : Below B w w') (hg : B ≤ g) (k : Nat) (y : Oj) : Below B w (setO w' g k y) :=
  (h.setCell (p := ⟨g, k * 2, none⟩) hg (.slice y.a1 y.l.length y.c1)).setCell (p := ⟨g, k * 2 + 1, none⟩) hg (.slice y.a2 y.ms.length y.c2)
theorem FarO.lists {g : Nat} {w : World} {y : Oj} (h : FarO g w y) : Sects w w.heap.size y.a1 y.l ∧ Syms w w.heap.size y.a2 y.ms := by
  obtain ⟨g1, g2, h1, _, h3, _, _, _, h7, h8, _⟩ := h
  rw [h1, h3]
  exact ⟨h7, h8⟩
theorem FilledO.objs {cs : Array Value} {n g : Nat} {w : World} {L : List Oj} (h : FilledO cs n L) (hh : Has w g 29 cs) (hf : ∀ y ∈ L, FarO g w y) : Objs w w.heap.size (some ⟨g, 0, none⟩) L :=
  ⟨fun _ => ⟨g, 0, rfl, hh.lt, fun i y hi => by
    obtain ⟨c0, c1⟩ := h.2 i y hi
    rw [Nat.zero_add]
    exact ⟨(hh.cell _).trans c0, (hh.cell _).trans c1⟩⟩, fun y hy => (hf y hy).lists.1, fun y hy => (hf y hy).lists.2⟩
theorem Try.info_object : (Try.prog.info? 29).map (fun i => (i.zero, i.size, i.bytes)) = some (some (.agg #[.slice none 0 0, .slice none 0 0]), 2, 48) := by kernel_rfl
set_option maxRecDepth 100000 in
set_option maxHeartbeats 2000000 in
theorem toObjectS_far (w : World) (B : Nat) (a : Option Addr) (c n : Nat) (l : List Oj) (hn : n = l.length) (h : Objs w B a l) (hB : B ≤ w.heap.size) (hlen : n ≤ 1048576) (hl : ∀ y ∈ l, y.short) :
    Calls Try.prog 21 #[.slice a n c] w fun e w' => ∃ l' : List Oj, l'.map Oj.o = l.map Oj.o ∧ e = .returned (.slice (some ⟨w.heap.size, 0, none⟩) n n) ∧ Objs w' w'.heap.size (some ⟨w.heap.size, 0, none⟩) l' ∧ Below w.heap.size w w' ∧ (∀ y ∈ l', FarO w.heap.size w' y) ∧ (∃ cs, Has w' w.heap.size 29 cs ∧ FilledO cs n l') ∧ w.heap.size < w'.heap.size := by
  have HN := hidden hn
  have H1 := hidden h
  have HL := hidden hl
  have hst : FilledO (madeCells (Value.agg #[.slice none 0 0, .slice none 0 0]).cells (n * 2)) n [] := ⟨by rw [size_madeCells], fun i f hi => by simp at hi⟩
  have HF := hidden hst
  have hmk := fun W => run_make_k (P := Try.prog) 23 29 _ 2 48 Try.underlying23 Try.info_object .i64 .i64 n (by omega) (by omega) W
  clear hn h hl hst
  go_enter Try.func21, Try.ntmps21
  go_wp2
  go_loopw [4] (fun i wr => ∃ (k : Nat) (cs : Array Value) (l' : List Oj), k ≤ n ∧ i = .int .i64 k ∧ Hid (l'.map Oj.o = (l.take k).map Oj.o) ∧ Hid (FilledO cs n l') ∧ Has wr w.heap.size 29 cs ∧ Hid (∀ y ∈ l', FarO w.heap.size wr y) ∧ Below w.heap.size w wr) (fun i _ => n - (intOf i).toNat)
  case atStart => exact ⟨0, _, [], Nat.zero_le _, rfl, hidden rfl, HF, Has.new _ _ _, hidden (by simp), (Below.refl _ _).alloc (Nat.le_refl _) _⟩
  case round =>
    obtain ⟨k, cs, l', hk, rfl, hm, hf, hh, hfar, hb⟩ := hrel
    clear hmk HF
    by_cases hlt : k < n
    · have hkl : k < l.length := by rw [← HN.out]; exact hlt
      have hl' : l'.length = k := by
        have := congrArg List.length hm.out
        rw [List.length_map, List.length_map, List.length_take] at this
        omega
      obtain ⟨b1, o1, rfl, _, p0, p1⟩ := (H1.out.below (hb.mono hB)).at_ hkl
      obtain ⟨y, hy⟩ : ∃ y, l[k] = y := ⟨_, rfl⟩
      rw [hy] at p0 p1
      have hmem : y ∈ l := by rw [← hy]; exact List.getElem_mem hkl
      have HM2 : Hid (l.take (k + 1) = l.take k ++ [y]) := by show _ = _; rw [List.take_add_one, List.getElem?_eq_getElem hkl, hy]; rfl
      have hsh := HL.out y hmem
      have HC := hidden (toObject_any wr B y.a1 y.a2 y.c1 y.c2 _ _ y.l y.ms rfl rfl ((H1.out.secs y hmem).below (hb.mono hB)) ((H1.out.syms y hmem).below (hb.mono hB)) (Nat.le_trans hB hb.size) hsh.1.1 hsh.2.1 hsh.1.2)
      unfold TookO at HC
      have HFF := hf
      have HH := hidden hh
      have hlw := hh.lt
      have HLL := hidden hl'
      clear hy hf hh hkl hmem hsh hl'
      have hi : (k : Int) < (n : Int) := by omega
      go_wp2_with fail
      refine HC.out.mono ?_
      clear HC p0 p1
      rintro e w2 ⟨ls, g1, g2, hls, rfl, hS2, hM2, hb2, hg1, hg2, hF2, hc1, hc2⟩
      have hlsl : ls.length = y.l.length := by
        have := congrArg List.length hls
        rwa [List.length_map, List.length_map] at this
      have hh2 : Has w2 w.heap.size 29 cs := HH.out.below hb2 HH.out.lt
      have hcs : k * 2 + 1 < cs.size := by rw [HFF.out.1]; omega
      obtain ⟨v0, hv0⟩ : ∃ v, cs[k * 2]? = some v := ⟨_, Array.getElem?_eq_getElem (by omega)⟩
      obtain ⟨v1, hv1⟩ : ∃ v, cs[k * 2 + 1]? = some v := ⟨_, Array.getElem?_eq_getElem (by omega)⟩
      have e0 := (hh2.cell (k * 2)).trans hv0
      have e1 := (hh2.cell (k * 2 + 1)).trans hv1
      have f0 := hh2.free (k * 2)
      have f1 := hh2.free (k * 2 + 1)
      have hb3 : Below w.heap.size w w2 := hb.trans (hb2.mono hb.size)
      obtain ⟨n1, hn1⟩ : ∃ q, y.l.length = q := ⟨_, rfl⟩
      obtain ⟨n2, hn2⟩ : ∃ q, y.ms.length = q := ⟨_, rfl⟩
      rw [hn1] at hc1
      rw [hn2] at hc2
      have hln : ls.length = n1 := hlsl.trans hn1
      have HY : Hid (FarO w.heap.size w2 ⟨ls, y.ms, some ⟨g1, 0, none⟩, n1, some ⟨g2, 0, none⟩, n2⟩) := ⟨g1, g2, rfl, hln.symm, rfl, hn2.symm, by omega, hg2, hS2, hM2, hF2, by rw [hln]; exact hc1, by rw [hn2]; exact hc2⟩
      have HFAR : Hid (∀ z ∈ l' ++ [⟨ls, y.ms, some ⟨g1, 0, none⟩, n1, some ⟨g2, 0, none⟩, n2⟩], FarO w.heap.size ((w2.setCell ⟨w.heap.size, k * 2, none⟩ (.slice (some ⟨g1, 0, none⟩) n1 n1)).setCell ⟨w.heap.size, k * 2 + 1, none⟩ (.slice (some ⟨g2, 0, none⟩) n2 n2)) z) := fun z hz => by
        rcases List.mem_append.1 hz with h | h
        · exact ((((hfar.out z h).below hb2).put (Nat.le_refl _) _ _).put (Nat.le_refl _) _ _)
        · simp only [List.mem_singleton] at h; subst h; exact (HY.out.put (Nat.le_refl _) _ _).put (Nat.le_refl _) _ _
      have HN2 : Hid (FilledO ((cs.setIfInBounds (k * 2) (.slice (some ⟨g1, 0, none⟩) n1 n1)).setIfInBounds (k * 2 + 1) (.slice (some ⟨g2, 0, none⟩) n2 n2)) n (l' ++ [⟨ls, y.ms, some ⟨g1, 0, none⟩, n1, some ⟨g2, 0, none⟩, n2⟩])) := by
        have := HFF.out.next HLL.out hlt (Oj.mk ls y.ms (some ⟨g1, 0, none⟩) n1 (some ⟨g2, 0, none⟩) n2)
        unfold putO at this
        simp only [hln, hn2] at this
        exact this
      have HM3 : Hid ((l' ++ [Oj.mk ls y.ms (some ⟨g1, 0, none⟩) n1 (some ⟨g2, 0, none⟩) n2]).map Oj.o = (l.take (k + 1)).map Oj.o) := by
        show _ = _
        rw [HM2.out, List.map_append, List.map_append, hm.out]
        show _ ++ [(ls.map Sp.s, y.ms)] = _ ++ [(y.l.map Sp.s, y.ms)]
        rw [hls]
      have hput : Has ((w2.setCell ⟨w.heap.size, k * 2, none⟩ (.slice (some ⟨g1, 0, none⟩) n1 n1)).setCell ⟨w.heap.size, k * 2 + 1, none⟩ (.slice (some ⟨g2, 0, none⟩) n2 n2)) w.heap.size 29 ((cs.setIfInBounds (k * 2) (.slice (some ⟨g1, 0, none⟩) n1 n1)).setIfInBounds (k * 2 + 1) (.slice (some ⟨g2, 0, none⟩) n2 n2)) := (hh2.put _ _).put _ _
      have hbp : Below w.heap.size w ((w2.setCell ⟨w.heap.size, k * 2, none⟩ (.slice (some ⟨g1, 0, none⟩) n1 n1)).setCell ⟨w.heap.size, k * 2 + 1, none⟩ (.slice (some ⟨g2, 0, none⟩) n2 n2)) := (hb3.setCell (p := ⟨w.heap.size, k * 2, none⟩) (Nat.le_refl _) _).setCell (p := ⟨w.heap.size, k * 2 + 1, none⟩) (Nat.le_refl _) _
      have HP := hidden hput
      have HBP := hidden hbp
      rw [hn1, hn2]
      clear hh2 hcs hv0 hv1 hb hb2 hb3 HFF HH HY hput hbp hfar hls hS2 hM2 hg1 hg2 hF2 hc1 hc2 hlsl hn1 hn2 hln hm HM2
      go_wp2_with fail
      go_roundw
      case rel => exact ⟨k + 1, _, _, by omega, by go_num, HM3, HN2, HP.out, HFAR, HBP.out⟩
      case measure => simp [intOf]; omega
    · have hkl : l.take k = l := List.take_of_length_le (by rw [← HN.out]; omega)
      have HA := hidden (hf.out.objs hh hfar.out)
      have HM : Hid (l'.map Oj.o = l.map Oj.o) := by show _ = _; rw [hm.out, hkl]
      have hlt2 := hh.lt
      have HFX := hf
      have hi : ¬ (k : Int) < (n : Int) := by omega
      clear hkl hf hm
      go_wp2
      go_ret
      exact ⟨l', HM.out, rfl, HA.out, hb, hfar.out, ⟨cs, hh, HFX.out⟩, hlt2⟩
set_option maxRecDepth 100000 in
set_option maxHeartbeats 2000000 in
theorem eqObjectS_yes (w : World) (B1 B2 : Nat) (a1 a2 : Option Addr) (c1 c2 n : Nat) (l1 l2 : List Oj) (hm : l1.map Oj.o = l2.map Oj.o) (hn : n = l1.length) (h1 : Objs w B1 a1 l1) (h2 : Objs w B2 a2 l2) (hB1 : B1 ≤ w.heap.size) (hB2 : B2 ≤ w.heap.size) (hlen : n ≤ 9223372036854775807) (hl : ∀ y ∈ l1, y.lens) :
    Calls Try.prog 23 #[.slice a1 n c1, .slice a2 n c2] w fun e w' => e = .returned (.bool true) ∧ Below w.heap.size w w' := by
  have HM := hidden hm
  have HN := hidden hn
  have H1 := hidden h1
  have H2 := hidden h2
  have HL := hidden hl
  have hn2' : n = l2.length := by rw [hn, ← List.length_map (f := Oj.o), hm, List.length_map]
  have HN2 := hidden hn2'
  clear hm hn h1 h2 hl hn2'
  go_enter Try.func23, Try.ntmps23
  go_wp2
  go_loopw [5] (fun i wr => ∃ k : Nat, i = .int .i64 k ∧ k ≤ n ∧ Below w.heap.size w wr) (fun i _ => n - (intOf i).toNat)
  case atStart => exact ⟨0, rfl, by omega, Below.refl _ _⟩
  case round =>
    obtain ⟨k, rfl, hk, hb⟩ := hrel
    by_cases hlt : k < n
    · have hi : (k : Int) < (n : Int) := by omega
      have hkl1 : k < l1.length := by rw [← HN.out]; exact hlt
      have hkl2 : k < l2.length := by rw [← HN2.out]; exact hlt
      obtain ⟨b1, o1, rfl, _, p0, p1⟩ := (H1.out.below (hb.mono hB1)).at_ hkl1
      obtain ⟨b2, o2, rfl, _, q0, q1⟩ := (H2.out.below (hb.mono hB2)).at_ hkl2
      obtain ⟨y, hy⟩ : ∃ y, l1[k] = y := ⟨_, rfl⟩
      obtain ⟨z, hz⟩ : ∃ z, l2[k] = z := ⟨_, rfl⟩
      rw [hy] at p0 p1
      rw [hz] at q0 q1
      have hm1 : y ∈ l1 := by rw [← hy]; exact List.getElem_mem hkl1
      have hm2 : z ∈ l2 := by rw [← hz]; exact List.getElem_mem hkl2
      have hyz : y.o = z.o := by
        have e : (l1.map Oj.o)[k]? = (l2.map Oj.o)[k]? := by rw [HM.out]
        rw [List.getElem?_map, List.getElem?_map, List.getElem?_eq_getElem hkl1, List.getElem?_eq_getElem hkl2, hy, hz] at e
        simpa using e
      have hyz1 : y.l.map Sp.s = z.l.map Sp.s := congrArg Prod.fst hyz
      have hyz2 : y.ms = z.ms := congrArg Prod.snd hyz
      have hyz3 : z.l.length = y.l.length := by
        have := congrArg List.length hyz1
        rw [List.length_map, List.length_map] at this
        exact this.symm
      rw [hyz3] at q0
      rw [← hyz2] at q1
      have hyl := HL.out y hm1
      have HC := hidden (eqObject_yes wr.drew B1 B2 y.a1 y.a2 z.a1 z.a2 y.c1 y.c2 z.c1 z.c2 y.l.length y.ms.length y.l z.l y.ms hyz1 rfl rfl (((H1.out.secs y hm1).below (hb.mono hB1)).drewN 1) (((H1.out.syms y hm1).below (hb.mono hB1)).drewN 1) (((H2.out.secs z hm2).below (hb.mono hB2)).drewN 1) (by have := ((H2.out.syms z hm2).below (hb.mono hB2)).drewN 1; rw [← hyz2] at this; exact this) (Nat.le_trans hB1 hb.size) (Nat.le_trans hB2 hb.size) hyl.1 hyl.2.1 hyl.2.2.1)
      obtain ⟨n1, hn1⟩ : ∃ q, y.l.length = q := ⟨_, rfl⟩
      obtain ⟨n2, hn2⟩ : ∃ q, y.ms.length = q := ⟨_, rfl⟩
      rw [hn1] at p0 q0 HC
      rw [hn2] at p1 q1 HC
      clear hy hz hkl1 hkl2 hm1 hm2 hyz hyz1 hyz2 hyz3 hyl hn1 hn2
      go_wp2
      go_still_tail 8, (by kernel_rfl)
      change wpList _ _ _ _ _ wr.drew
      go_wp2_with (go_at_call 42; refine HC.out.mono ?_; rintro e w2 ⟨rfl, hb2⟩)
      have hb3 : Below w.heap.size w w2 := hb.drew.trans (hb2.mono hb.size)
      go_roundw
      case rel => exact ⟨k + 1, by go_num, by omega, hb3⟩
      case measure => simp [intOf]; omega
    · have hi : ¬ (k : Int) < (n : Int) := by omega
      go_wp2
      go_ret
      exact ⟨rfl, hb⟩

end Go.Proofs.Ytiocchmlmcoieaa

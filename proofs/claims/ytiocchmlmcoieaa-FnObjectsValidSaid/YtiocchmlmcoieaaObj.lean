/-
  Whole objects: what the laws' functions do with them.
-/
import Derived.Test.YtiocchmlmcoieaaSecs
namespace Go.Proofs.Ytiocchmlmcoieaa
open Go.RowKit

def SizedM (w : World) (m : Sm) (e : Ending) (w' : World) : Prop :=
  ∃ r : Int, e = .returned (.int .i64 r) ∧ Below w.heap.size w w' ∧ -1 ≤ r ∧ r ≤ 1048576 ∧ (0 ≤ r → m.name.size ≤ 1048576)
theorem szSymbol_any (w : World) (m : Sm) (hn : m.name.size ≤ maxLen) (left : Int) (hf0 : 0 ≤ left) (hf1 : left ≤ 1048576) :
    Calls Try.prog 76 #[m.agg, .int .i64 left] w (SizedM w m) := by
  obtain ⟨nm, bd, lo, va⟩ := m
  unfold Sm.agg SizedM
  simp only at hn ⊢
  unfold maxLen at hn
  by_cases h1 : left - (nm.size : Int) < 0
  · go_enter Try.func76, Try.ntmps76
    go_wp2_with fail
    go_ret
    exact ⟨-1, rfl, (Below.refl _ _).alloc (Nat.le_refl _) _, by omega, by omega, by omega⟩
  · go_enter Try.func76, Try.ntmps76
    go_wp2_with fail
    go_ret
    exact ⟨left - (nm.size : Int), rfl, (Below.refl _ _).alloc (Nat.le_refl _) _, by omega, by omega, fun _ => by omega⟩
def SizedMS (w : World) (l : List Sm) (e : Ending) (w' : World) : Prop :=
  ∃ r : Int, e = .returned (.int .i64 r) ∧ Below w.heap.size w w' ∧ -1 ≤ r ∧ r ≤ 1048576 ∧ (0 ≤ r → l.length ≤ 1048576 ∧ ∀ x ∈ l, x.name.size ≤ 1048576)
set_option maxRecDepth 100000 in
set_option maxHeartbeats 1000000 in
theorem szSymbolS_any (w : World) (B : Nat) (a : Option Addr) (c n : Nat) (l : List Sm) (hn : n = l.length) (h : Syms w B a l) (hB : B ≤ w.heap.size) (hlen : n ≤ 9223372036854775807) (hl : ∀ y ∈ l, y.name.size ≤ maxLen) (left : Int) (hf0 : 0 ≤ left) (hf1 : left ≤ 1048576) :
    Calls Try.prog 60 #[.slice a n c, .int .i64 left] w (SizedMS w l) := by
  have HN := hidden hn
  have H1 := hidden h
  have HL := hidden hl
  clear hn h hl
  by_cases h1 : left - (n : Int) < 0
  · go_enter Try.func60, Try.ntmps60
    go_wp2_with fail
    go_ret
    exact ⟨-1, rfl, Below.refl _ _, by omega, by omega, by omega⟩
  have hn1 : n ≤ 1048576 := by omega
  obtain ⟨l0, hl0⟩ : ∃ q : Int, left - (n : Int) = q := ⟨_, rfl⟩
  have k0 : 0 ≤ l0 := by omega
  have k1 : l0 ≤ 1048576 := by omega
  go_enter Try.func60, Try.ntmps60
  go_wp2_with fail
  go_loopw [5, 1] (fun i lf wr => ∃ (k : Nat) (x : Int), i = .int .i64 k ∧ lf = .int .i64 x ∧ k ≤ n ∧ 0 ≤ x ∧ x ≤ 1048576 ∧ Hid (∀ y ∈ l.take k, y.name.size ≤ 1048576) ∧ Below w.heap.size w wr) (fun i _ _ => n - (intOf i).toNat)
  case atStart => exact ⟨0, l0, rfl, by rw [← hl0], by omega, k0, k1, hidden (by simp), Below.refl _ _⟩
  case round =>
    obtain ⟨k, x, rfl, rfl, hk, x0, x1, hs, hb⟩ := hrel
    clear hl0 k0 k1
    by_cases hlt : k < n
    · have hi : (k : Int) < (n : Int) := by omega
      have hkl : k < l.length := by rw [← HN.out]; exact hlt
      obtain ⟨b, off, rfl, _, p0, p1, p2, p3⟩ := (H1.out.below (hb.mono hB)).at_ hkl
      obtain ⟨y, hy⟩ : ∃ y, l[k] = y := ⟨_, rfl⟩
      rw [hy] at p0 p1 p2 p3
      have HY : Hid (l.take (k + 1) = l.take k ++ [y]) := by show _ = _; rw [List.take_add_one, List.getElem?_eq_getElem hkl, hy]; rfl
      have hyl := HL.out y (by rw [← hy]; exact List.getElem_mem hkl)
      have HC := hidden (szSymbol_any wr y hyl x x0 x1)
      unfold Sm.agg at HC
      clear hy hyl hkl
      go_wp2_with fail
      refine HC.out.mono ?_
      clear HC p0 p1 p2 p3
      rintro e w2 ⟨r, rfl, hb2, r0, r1, hr⟩
      have hb3 := hb.trans (hb2.mono hb.size)
      clear hb hb2
      by_cases hneg : r < 0
      · clear hr
        go_wp2_with fail
        go_ret
        exact ⟨-1, rfl, hb3, by omega, by omega, by omega⟩
      have HS : Hid (∀ z ∈ l.take (k + 1), z.name.size ≤ 1048576) := fun z hz => by
        rw [HY.out] at hz
        rcases List.mem_append.1 hz with h | h
        · exact hs.out z h
        · simp only [List.mem_singleton] at h; subst h; exact hr (by omega)
      clear hr hs HY
      go_wp2_with fail
      go_roundw
      case rel => exact ⟨k + 1, r, by go_num, rfl, by omega, by omega, r1, HS, hb3⟩
      case measure => simp [intOf]; omega
    · have hi : ¬ (k : Int) < (n : Int) := by omega
      have hfin : Hid (∀ y ∈ l, y.name.size ≤ 1048576) := by
        have hkl : l.take k = l := List.take_of_length_le (by rw [← HN.out]; omega)
        rw [← hkl]; exact hs
      clear hs
      go_wp2_with fail
      go_ret
      exact ⟨x, rfl, hb, by omega, x1, fun _ => ⟨by rw [← HN.out]; exact hn1, hfin.out⟩⟩
def SizedO (w : World) (l : List Sp) (ms : List Sm) (e : Ending) (w' : World) : Prop :=
  ∃ r : Int, e = .returned (.int .i64 r) ∧ Below w.heap.size w w' ∧ -1 ≤ r ∧ r ≤ 1048576 ∧ (0 ≤ r → (l.length ≤ 1048576 ∧ ∀ y ∈ l, y.s.short) ∧ ms.length ≤ 1048576 ∧ ∀ x ∈ ms, x.name.size ≤ 1048576)
set_option maxHeartbeats 1000000 in
theorem szObject_any (w : World) (B : Nat) (a1 a2 : Option Addr) (c1 c2 n m : Nat) (l : List Sp) (ms : List Sm) (hn : n = l.length) (hm : m = ms.length) (h1 : Sects w B a1 l) (h2 : Syms w B a2 ms) (hB : B ≤ w.heap.size) (hlen : n ≤ 9223372036854775807) (hlem : m ≤ 9223372036854775807)
    (hl : ∀ y ∈ l, y.s.lens) (hs : ∀ x ∈ ms, x.name.size ≤ maxLen) (left : Int) (hf0 : 0 ≤ left) (hf1 : left ≤ 1048576) :
    Calls Try.prog 39 #[.agg #[.slice a1 n c1, .slice a2 m c2], .int .i64 left] w (SizedO w l ms) := by
  have hb1 : Below w.heap.size w (w.alloc (.cells #[.slice a1 n c1, .slice a2 m c2] 73)) := (Below.refl _ _).alloc (Nat.le_refl _) _
  have H1 := hidden (szSectionS_any (w.alloc (.cells #[.slice a1 n c1, .slice a2 m c2] 73)) B a1 c1 n l hn (h1.below (hb1.mono hB)) (Nat.le_trans hB hb1.size) hlen hl left hf0 hf1)
  have H2 := hidden (fun (W : World) (hW : Below w.heap.size w W) (x : Int) (x0 : 0 ≤ x) (x1 : x ≤ 1048576) => szSymbolS_any W B a2 c2 m ms hm (h2.below (hW.mono hB)) (Nat.le_trans hB hW.size) hlem hs x x0 x1)
  have HB1 := hidden hb1
  clear h1 h2 hn hm hl hs hb1
  go_enter Try.func39, Try.ntmps39
  go_wp2_with fail
  refine H1.out.mono ?_
  clear H1
  rintro e w2 ⟨r, rfl, hb2, r0, r1, hr⟩
  have hb12 : Below w.heap.size w w2 := HB1.out.trans (hb2.mono HB1.out.size)
  have q : w2.cell? ⟨w.heap.size, 1, none⟩ = some (.slice a2 m c2) := (hb2.cell (by simp)).trans ((Has.new w 73 _).cell 1)
  clear hb2
  by_cases hneg : r < 0
  · clear hr
    go_wp2_with fail
    go_ret
    exact ⟨-1, rfl, hb12, by omega, by omega, by omega⟩
  have HR := hidden (hr (by omega))
  clear hr
  go_wp2_with fail
  refine (H2.out w2 hb12 r (by omega) r1).mono ?_
  clear H2
  rintro e w3 ⟨x, rfl, hb3, x0, x1, hx⟩
  have hb13 : Below w.heap.size w w3 := hb12.trans (hb3.mono hb12.size)
  clear hb3 q
  by_cases hneg2 : x < 0
  · clear hx
    go_wp2_with fail
    go_ret
    exact ⟨-1, rfl, hb13, by omega, by omega, by omega⟩
  have HX := hidden (hx (by omega))
  clear hx
  go_wp2_with fail
  go_ret
  exact ⟨x, rfl, hb13, by omega, x1, fun _ => ⟨HR.out, HX.out⟩⟩
/-- What toObject answers: an object of its own, all of it behind the old heap. -/
def TookO (w : World) (l : List Sp) (ms : List Sm) (n m : Nat) (e : Ending) (w' : World) : Prop :=
  ∃ (l' : List Sp) (g1 g2 : Nat), l'.map Sp.s = l.map Sp.s ∧ e = .returned (.agg #[.slice (some ⟨g1, 0, none⟩) n n, .slice (some ⟨g2, 0, none⟩) m m]) ∧ Sects w' w'.heap.size (some ⟨g1, 0, none⟩) l' ∧ Syms w' w'.heap.size (some ⟨g2, 0, none⟩) ms ∧
    Below w.heap.size w w' ∧ w.heap.size ≤ g1 ∧ g1 < g2 ∧ (∀ y ∈ l', Far g1 w' y) ∧ (∃ cs, Has w' g1 42 cs ∧ FilledX cs n l') ∧ (∃ cs, Has w' g2 82 cs ∧ cs.size = m * 4)
set_option maxHeartbeats 2000000 in
theorem toObject_any (w : World) (B : Nat) (a1 a2 : Option Addr) (c1 c2 n m : Nat) (l : List Sp) (ms : List Sm) (hn : n = l.length) (hm : m = ms.length) (h1 : Sects w B a1 l) (h2 : Syms w B a2 ms) (hB : B ≤ w.heap.size) (hlen : n ≤ 1048576) (hlem : m ≤ 1048576) (hl : ∀ y ∈ l, y.s.short) :
    Calls Try.prog 40 #[.agg #[.slice a1 n c1, .slice a2 m c2]] w (TookO w l ms n m) := by
  have hbA : Below w.heap.size w (((w.alloc (.cells #[.slice a1 n c1, .slice a2 m c2] 73)).alloc (.cells #[.slice none 0 0, .slice none 0 0] 29)).alloc (.cells #[.slice none 0 0, .slice none 0 0] 29)) := (((Below.refl _ _).alloc (Nat.le_refl _) _).alloc (by simp) _).alloc (by simp; omega) _
  have H1 := hidden (toSectionS_far (((w.alloc (.cells #[.slice a1 n c1, .slice a2 m c2] 73)).alloc (.cells #[.slice none 0 0, .slice none 0 0] 29)).alloc (.cells #[.slice none 0 0, .slice none 0 0] 29)) B a1 c1 n l hn (h1.below (hbA.mono hB)) (Nat.le_trans hB hbA.size) hlen hl)
  have H2 := hidden (fun (W : World) (hW : Below w.heap.size w W) => toSymbolS_has W B a2 c2 m ms hm (h2.below (hW.mono hB)) (Nat.le_trans hB hW.size) hlem)
  have hasA : Has (((w.alloc (.cells #[.slice a1 n c1, .slice a2 m c2] 73)).alloc (.cells #[.slice none 0 0, .slice none 0 0] 29)).alloc (.cells #[.slice none 0 0, .slice none 0 0] 29)) w.heap.size 73 #[.slice a1 n c1, .slice a2 m c2] := ((Has.new w _ _).alloc _).alloc _
  have hasB : Has (((w.alloc (.cells #[.slice a1 n c1, .slice a2 m c2] 73)).alloc (.cells #[.slice none 0 0, .slice none 0 0] 29)).alloc (.cells #[.slice none 0 0, .slice none 0 0] 29)) (w.heap.size + 1) 29 #[.slice none 0 0, .slice none 0 0] := by
    have h := (Has.new (w.alloc (.cells #[.slice a1 n c1, .slice a2 m c2] 73)) 29 #[.slice none 0 0, .slice none 0 0]).alloc (.cells #[.slice none 0 0, .slice none 0 0] 29)
    simpa using h
  have hasC : Has (((w.alloc (.cells #[.slice a1 n c1, .slice a2 m c2] 73)).alloc (.cells #[.slice none 0 0, .slice none 0 0] 29)).alloc (.cells #[.slice none 0 0, .slice none 0 0] 29)) (w.heap.size + 1 + 1) 29 #[.slice none 0 0, .slice none 0 0] := by
    have h := Has.new ((w.alloc (.cells #[.slice a1 n c1, .slice a2 m c2] 73)).alloc (.cells #[.slice none 0 0, .slice none 0 0] 29)) 29 #[.slice none 0 0, .slice none 0 0]
    simpa using h
  have hsz : (((w.alloc (.cells #[.slice a1 n c1, .slice a2 m c2] 73)).alloc (.cells #[.slice none 0 0, .slice none 0 0] 29)).alloc (.cells #[.slice none 0 0, .slice none 0 0] 29)).heap.size = w.heap.size + 3 := by simp
  rw [hsz] at H1
  have HA := hidden hasA
  have HB := hidden hasB
  have HC := hidden hasC
  have HBA := hidden hbA
  have HSZ := hidden hsz
  clear hn hm h1 h2 hl hasA hasB hasC hbA hsz
  go_enter Try.func40, Try.ntmps40
  go_wp2_with fail
  refine H1.out.mono ?_
  clear H1
  rintro e w3 ⟨l', hl', rfl, hs3, hb3, hf3, ⟨csX, hhX3, hfX⟩, hlt3⟩
  have HM := hidden hl'
  have hasA3 := HA.out.below hb3 (by omega)
  have hasB3 := HB.out.below hb3 (by omega)
  have hasC3 := HC.out.below hb3 (by omega)
  have hb03 : Below w.heap.size w w3 := HBA.out.trans (hb3.mono (by omega))
  have hS4 := hs3.put hf3 (p := w.heap.size + 1 + 1) (by omega) 0 (.slice (some ⟨w.heap.size + 3, 0, none⟩) n n)
  have hF4 : ∀ y ∈ l', Far (w.heap.size + 3) (w3.setCell ⟨w.heap.size + 1 + 1, 0, none⟩ (.slice (some ⟨w.heap.size + 3, 0, none⟩) n n)) y := fun y hy => (hf3 y hy).putLow (by omega) _ _
  have hA4 : Has (w3.setCell ⟨w.heap.size + 1 + 1, 0, none⟩ (.slice (some ⟨w.heap.size + 3, 0, none⟩) n n)) w.heap.size 73 _ := hasA3.away (p := ⟨w.heap.size + 1 + 1, 0, none⟩) (by show _ ≠ w.heap.size + 1 + 1; omega) _
  have hB4 : Has (w3.setCell ⟨w.heap.size + 1 + 1, 0, none⟩ (.slice (some ⟨w.heap.size + 3, 0, none⟩) n n)) (w.heap.size + 1) 29 #[.slice none 0 0, .slice none 0 0] := hasB3.away (p := ⟨w.heap.size + 1 + 1, 0, none⟩) (by show _ ≠ w.heap.size + 1 + 1; omega) _
  have hC4 : Has (w3.setCell ⟨w.heap.size + 1 + 1, 0, none⟩ (.slice (some ⟨w.heap.size + 3, 0, none⟩) n n)) (w.heap.size + 1 + 1) 29 #[.slice (some ⟨w.heap.size + 3, 0, none⟩) n n, .slice none 0 0] := hasC3.put 0 _
  have hb04 : Below w.heap.size w (w3.setCell ⟨w.heap.size + 1 + 1, 0, none⟩ (.slice (some ⟨w.heap.size + 3, 0, none⟩) n n)) := hb03.setCell (p := ⟨w.heap.size + 1 + 1, 0, none⟩) (by show _ ≤ w.heap.size + 1 + 1; omega) _
  have hX4 : Has (w3.setCell ⟨w.heap.size + 1 + 1, 0, none⟩ (.slice (some ⟨w.heap.size + 3, 0, none⟩) n n)) (w.heap.size + 3) 42 csX := hhX3.away (p := ⟨w.heap.size + 1 + 1, 0, none⟩) (by show _ ≠ w.heap.size + 1 + 1; omega) _
  have hsz4 : (w3.setCell ⟨w.heap.size + 1 + 1, 0, none⟩ (.slice (some ⟨w.heap.size + 3, 0, none⟩) n n)).heap.size = w3.heap.size := by simp
  have c0 : w3.cell? ⟨w.heap.size + 1 + 1, 0, none⟩ = some (.slice none 0 0) := hasC3.cell 0
  have f0 := hasC3.free 0
  have q1 : (w3.setCell ⟨w.heap.size + 1 + 1, 0, none⟩ (.slice (some ⟨w.heap.size + 3, 0, none⟩) n n)).cell? ⟨w.heap.size, 1, none⟩ = some (.slice a2 m c2) := hA4.cell 1
  obtain ⟨w4, hw4⟩ : ∃ W, w3.setCell ⟨w.heap.size + 1 + 1, 0, none⟩ (.slice (some ⟨w.heap.size + 3, 0, none⟩) n n) = W := ⟨_, rfl⟩
  have HT := hidden (H2.out w4 (hw4 ▸ hb04))
  rw [hw4] at hS4 hF4 hA4 hB4 hC4 hb04 hsz4 q1 hX4
  have HS4 := hidden hS4
  have HF4 := hidden hF4
  have HX4 := hidden hX4
  have HFX := hidden hfX
  have HB4 := hidden hB4
  have HC4 := hidden hC4
  have HB04 := hidden hb04
  have hq1 : w3.cell? ⟨w.heap.size, 1, none⟩ = some (.slice a2 m c2) := hasA3.cell 1
  have HW4 := hidden hw4
  clear H2 HA HB HC HBA hl' hs3 hf3 hasA3 hasB3 hasC3 hb03 hS4 hF4 hA4 hB4 hC4 hb04 hb3 q1 hw4 hX4 hhX3 hfX
  go_wp2_with fail
  rw [HW4.out]
  refine HT.out.mono ?_
  clear HT
  rintro e w5 ⟨rfl, hy5, hlt5, hb5, csM, hhM5, hcM⟩
  have hlt4 : w.heap.size + 3 < w4.heap.size := by omega
  have hS5 : Sects w5 w5.heap.size (some ⟨w.heap.size + 3, 0, none⟩) l' := (HS4.out.below hb5).more hb5.size
  have hF5 : ∀ y ∈ l', Far (w.heap.size + 3) w5 y := fun y hy => (HF4.out y hy).below hb5
  have hX5 := HX4.out.below hb5 (by omega)
  have hB5 := HB4.out.below hb5 (by omega)
  have hC5 := HC4.out.below hb5 (by omega)
  have hb05 : Below w.heap.size w w5 := HB04.out.trans (hb5.mono (by omega))
  obtain ⟨g2, hg2⟩ : ∃ g, w4.heap.size = g := ⟨_, rfl⟩
  rw [hg2] at hy5 hlt5 hlt4 hhM5 ⊢
  have c1' : w5.cell? ⟨w.heap.size + 1 + 1, 1, none⟩ = some (.slice none 0 0) := hC5.cell 1
  have c0' : w5.cell? ⟨w.heap.size + 1 + 1, 0, none⟩ = some (.slice (some ⟨w.heap.size + 3, 0, none⟩) n n) := hC5.cell 0
  have z0 : w5.cell? ⟨w.heap.size + 1, 0, none⟩ = some (.slice none 0 0) := hB5.cell 0
  have z1 : w5.cell? ⟨w.heap.size + 1, 1, none⟩ = some (.slice none 0 0) := hB5.cell 1
  have f1 := hC5.free 1
  have y0 := hB5.free 0
  have y1 := hB5.free 1
  -- the last world
  have hS6 := hS5.put hF5 (p := w.heap.size + 1 + 1) (by omega) 1 (.slice (some ⟨g2, 0, none⟩) m m)
  have hF6 : ∀ y ∈ l', Far (w.heap.size + 3) (w5.setCell ⟨w.heap.size + 1 + 1, 1, none⟩ (.slice (some ⟨g2, 0, none⟩) m m)) y := fun y hy => (hF5 y hy).putLow (by omega) _ _
  have hS7 := hS6.put hF6 (p := w.heap.size + 1) (by omega) 0 (.slice (some ⟨w.heap.size + 3, 0, none⟩) n n)
  have hF7 : ∀ y ∈ l', Far (w.heap.size + 3) ((w5.setCell ⟨w.heap.size + 1 + 1, 1, none⟩ (.slice (some ⟨g2, 0, none⟩) m m)).setCell ⟨w.heap.size + 1, 0, none⟩ (.slice (some ⟨w.heap.size + 3, 0, none⟩) n n)) y := fun y hy => (hF6 y hy).putLow (by omega) _ _
  have hS8 := hS7.put hF7 (p := w.heap.size + 1) (by omega) 1 (.slice (some ⟨g2, 0, none⟩) m m)
  have hF8 : ∀ y ∈ l', Far (w.heap.size + 3) (((w5.setCell ⟨w.heap.size + 1 + 1, 1, none⟩ (.slice (some ⟨g2, 0, none⟩) m m)).setCell ⟨w.heap.size + 1, 0, none⟩ (.slice (some ⟨w.heap.size + 3, 0, none⟩) n n)).setCell ⟨w.heap.size + 1, 1, none⟩ (.slice (some ⟨g2, 0, none⟩) m m)) y := fun y hy => (hF7 y hy).putLow (by omega) _ _
  have hY8 : Syms (((w5.setCell ⟨w.heap.size + 1 + 1, 1, none⟩ (.slice (some ⟨g2, 0, none⟩) m m)).setCell ⟨w.heap.size + 1, 0, none⟩ (.slice (some ⟨w.heap.size + 3, 0, none⟩) n n)).setCell ⟨w.heap.size + 1, 1, none⟩ (.slice (some ⟨g2, 0, none⟩) m m)) (g2 + 1) (some ⟨g2, 0, none⟩) ms := ((hy5.set (p := ⟨w.heap.size + 1 + 1, 1, none⟩) (by show g2 ≠ w.heap.size + 1 + 1; omega) _).set (p := ⟨w.heap.size + 1, 0, none⟩) (by show g2 ≠ w.heap.size + 1; omega) _).set (p := ⟨w.heap.size + 1, 1, none⟩) (by show g2 ≠ w.heap.size + 1; omega) _
  have hB8 : Has (((w5.setCell ⟨w.heap.size + 1 + 1, 1, none⟩ (.slice (some ⟨g2, 0, none⟩) m m)).setCell ⟨w.heap.size + 1, 0, none⟩ (.slice (some ⟨w.heap.size + 3, 0, none⟩) n n)).setCell ⟨w.heap.size + 1, 1, none⟩ (.slice (some ⟨g2, 0, none⟩) m m)) (w.heap.size + 1) 29 #[.slice (some ⟨w.heap.size + 3, 0, none⟩) n n, .slice (some ⟨g2, 0, none⟩) m m] := ((hB5.away (p := ⟨w.heap.size + 1 + 1, 1, none⟩) (by show _ ≠ w.heap.size + 1 + 1; omega) _).put 0 _).put 1 _
  have hb8 : Below w.heap.size w (((w5.setCell ⟨w.heap.size + 1 + 1, 1, none⟩ (.slice (some ⟨g2, 0, none⟩) m m)).setCell ⟨w.heap.size + 1, 0, none⟩ (.slice (some ⟨w.heap.size + 3, 0, none⟩) n n)).setCell ⟨w.heap.size + 1, 1, none⟩ (.slice (some ⟨g2, 0, none⟩) m m)) := ((hb05.setCell (p := ⟨w.heap.size + 1 + 1, 1, none⟩) (by show _ ≤ w.heap.size + 1 + 1; omega) _).setCell (p := ⟨w.heap.size + 1, 0, none⟩) (by show _ ≤ w.heap.size + 1; omega) _).setCell (p := ⟨w.heap.size + 1, 1, none⟩) (by show _ ≤ w.heap.size + 1; omega) _
  have hX8 : Has (((w5.setCell ⟨w.heap.size + 1 + 1, 1, none⟩ (.slice (some ⟨g2, 0, none⟩) m m)).setCell ⟨w.heap.size + 1, 0, none⟩ (.slice (some ⟨w.heap.size + 3, 0, none⟩) n n)).setCell ⟨w.heap.size + 1, 1, none⟩ (.slice (some ⟨g2, 0, none⟩) m m)) (w.heap.size + 3) 42 csX := (((hX5.away (p := ⟨w.heap.size + 1 + 1, 1, none⟩) (by show w.heap.size + 3 ≠ w.heap.size + 1 + 1; omega) _).away (p := ⟨w.heap.size + 1, 0, none⟩) (by show w.heap.size + 3 ≠ w.heap.size + 1; omega) _).away (p := ⟨w.heap.size + 1, 1, none⟩) (by show w.heap.size + 3 ≠ w.heap.size + 1; omega) _)
  have hM8 : Has (((w5.setCell ⟨w.heap.size + 1 + 1, 1, none⟩ (.slice (some ⟨g2, 0, none⟩) m m)).setCell ⟨w.heap.size + 1, 0, none⟩ (.slice (some ⟨w.heap.size + 3, 0, none⟩) n n)).setCell ⟨w.heap.size + 1, 1, none⟩ (.slice (some ⟨g2, 0, none⟩) m m)) g2 82 csM := (((hhM5.away (p := ⟨w.heap.size + 1 + 1, 1, none⟩) (by show g2 ≠ w.heap.size + 1 + 1; omega) _).away (p := ⟨w.heap.size + 1, 0, none⟩) (by show g2 ≠ w.heap.size + 1; omega) _).away (p := ⟨w.heap.size + 1, 1, none⟩) (by show g2 ≠ w.heap.size + 1; omega) _)
  have hz8 : (((w5.setCell ⟨w.heap.size + 1 + 1, 1, none⟩ (.slice (some ⟨g2, 0, none⟩) m m)).setCell ⟨w.heap.size + 1, 0, none⟩ (.slice (some ⟨w.heap.size + 3, 0, none⟩) n n)).setCell ⟨w.heap.size + 1, 1, none⟩ (.slice (some ⟨g2, 0, none⟩) m m)).heap.size = w5.heap.size := by simp
  have HS8 := hidden hS8
  have HF8 := hidden hF8
  have HY8 := hidden hY8
  have HB8 := hidden hB8
  have HBB := hidden hb8
  have HZ8 := hidden hz8
  have HX8 := hidden hX8
  have HM8 := hidden hM8
  clear HS4 HF4 HX4 hX5 hX8 hM8 hhM5 HB4 HC4 HB04 HW4 hS5 hF5 hB5 hC5 hb05 hy5 hS6 hF6 hS7 hF7 hS8 hF8 hY8 hB8 hb8 hz8 hb5 hg2 c0 f0 hq1
  go_wp2_with fail
  refine bodyPost_ret (results_cell_row rfl _ _ (w.heap.size + 1) 29 #[.slice (some ⟨w.heap.size + 3, 0, none⟩) n n, .slice (some ⟨g2, 0, none⟩) m m] (0, 0) _ rfl HB8.out Try.underlying29 rfl (by kernel_rfl)) rfl ?_
  exact ⟨l', w.heap.size + 3, g2, HM.out, rfl, HS8.out, HY8.out.more (by rw [HZ8.out]; exact hlt5), HBB.out, by omega, hlt4, HF8.out, ⟨csX, HX8.out, HFX.out⟩, ⟨csM, HM8.out, hcM⟩⟩
set_option maxHeartbeats 1000000 in
theorem eqObject_yes (w : World) (B1 B2 : Nat) (a1 a2 b1 b2 : Option Addr) (c1 c2 d1 d2 n m : Nat) (l1 l2 : List Sp) (ms : List Sm) (he : l1.map Sp.s = l2.map Sp.s) (hn : n = l1.length) (hm : m = ms.length) (h1 : Sects w B1 a1 l1) (h2 : Syms w B1 a2 ms) (h3 : Sects w B2 b1 l2) (h4 : Syms w B2 b2 ms) (hB1 : B1 ≤ w.heap.size) (hB2 : B2 ≤ w.heap.size)
    (hlen : n ≤ 9223372036854775807) (hlem : m ≤ 9223372036854775807) (hl : ∀ y ∈ l1, y.s.lens) :
    Calls Try.prog 42 #[.agg #[.slice a1 n c1, .slice a2 m c2], .agg #[.slice b1 n d1, .slice b2 m d2]] w fun e w' => e = .returned (.bool true) ∧ Below w.heap.size w w' := by
  have hbA : Below w.heap.size w ((w.alloc (.cells #[.slice a1 n c1, .slice a2 m c2] 29)).alloc (.cells #[.slice b1 n d1, .slice b2 m d2] 29)) := ((Below.refl _ _).alloc (Nat.le_refl _) _).alloc (by simp) _
  have H1 := hidden (eqSectionS_yes ((w.alloc (.cells #[.slice a1 n c1, .slice a2 m c2] 29)).alloc (.cells #[.slice b1 n d1, .slice b2 m d2] 29)) B1 B2 a1 b1 c1 d1 n l1 l2 he hn (h1.below (hbA.mono hB1)) (h3.below (hbA.mono hB2)) (Nat.le_trans hB1 hbA.size) (Nat.le_trans hB2 hbA.size) hlen hl)
  have H2 := hidden (fun (W : World) (hW : Below w.heap.size w W) => eqSymbolS_yes W B1 B2 a2 b2 c2 d2 m ms hm (h2.below (hW.mono hB1)) (h4.below (hW.mono hB2)) (Nat.le_trans hB1 hW.size) (Nat.le_trans hB2 hW.size) hlem)
  have HB := hidden hbA
  clear he hn hm h1 h2 h3 h4 hl hbA
  go_enter Try.func42, Try.ntmps42
  go_wp2_with fail
  refine H1.out.mono ?_
  clear H1
  rintro e w2 ⟨rfl, hb2⟩
  have hb12 : Below w.heap.size w w2 := HB.out.trans (hb2.mono HB.out.size)
  have q1 : w2.cell? ⟨w.heap.size, 1, none⟩ = some (.slice a2 m c2) := (hb2.cell (by simp; omega)).trans (((Has.new w 29 _).alloc _).cell 1)
  have q2 : w2.cell? ⟨w.heap.size + 1, 1, none⟩ = some (.slice b2 m d2) := (hb2.cell (by simp)).trans (by simp)
  clear hb2
  go_wp2_with fail
  refine (H2.out w2 hb12).mono ?_
  clear H2
  rintro e w3 ⟨rfl, hb3⟩
  go_wp2_with fail
  go_ret
  exact ⟨rfl, hb12.trans (hb3.mono hb12.size)⟩

end Go.Proofs.Ytiocchmlmcoieaa

/-
  The laws' sizes of objects, with what is left told.
-/
import Derived.Test.YtiocchmlmcoieaaObsL
namespace Go.Proofs.Ytiocchmlmcoieaa
open Go.RowKit

def SizedGK (w : World) (s : Sx) (left : Int) (e : Ending) (w' : World) : Prop :=
  ∃ r : Int, e = .returned (.int .i64 r) ∧ Below w.heap.size w w' ∧ -1 ≤ r ∧ r ≤ 1048576 ∧ (0 ≤ r → r ≤ left ∧ s.name.size ≤ 1048576 ∧ s.bytes.length ≤ 1048576 ∧ s.fixs.length ≤ 1048576)
set_option maxHeartbeats 1000000 in
theorem szSectionK_any (w : World) (s : Sx) (a1 : Option Addr) (c1 : Nat) (a2 : Option Addr) (c2 : Nat) (hn : s.name.size ≤ maxLen) (hl1 : s.bytes.length ≤ 9223372036854775807) (hl2 : s.fixs.length ≤ 9223372036854775807) (left : Int) (hf0 : 0 ≤ left) (hf1 : left ≤ 1048576) :
    Calls Try.prog 75 #[s.agg a1 c1 a2 c2, .int .i64 left] w (SizedGK w s left) := by
  obtain ⟨nm, kind, al, bs, sz, fs⟩ := s
  unfold Sx.agg SizedGK
  simp only at hn hl1 hl2 ⊢
  unfold maxLen at hn
  generalize bs.length = nb at hl1 ⊢
  generalize fs.length = nf at hl2 ⊢
  by_cases h1 : left - (nm.size : Int) < 0
  · go_enter Try.func75, Try.ntmps75
    go_wp2_with fail
    go_ret
    exact ⟨-1, rfl, (Below.refl _ _).alloc (Nat.le_refl _) _, by omega, by omega, by omega⟩
  have H1 := hidden (fun W => szByteS_any W a1 c1 nb (left - nm.size) (by omega) (by omega) hl1)
  by_cases h2 : left - nm.size < nb
  · have e : leftOf (left - nm.size) nb = -1 := if_pos h2
    rw [e] at H1
    clear e h2
    go_enter Try.func75, Try.ntmps75
    go_wp2_with (go_at_call 86; refine (H1.out _).mono ?_; rintro e w' ⟨rfl, rfl⟩)
    go_ret
    exact ⟨-1, rfl, (Below.refl _ _).alloc (Nat.le_refl _) _, by omega, by omega, by omega⟩
  have e : leftOf (left - nm.size) nb = left - nm.size - nb := if_neg h2
  rw [e] at H1
  clear e
  obtain ⟨l2, hl⟩ : ∃ l2 : Int, left - (nm.size : Int) - nb = l2 := ⟨_, rfl⟩
  rw [hl] at H1
  have g2 : ¬ l2 < 0 := by omega
  have H2 := hidden (fun W => szFixupS_any W a2 c2 nf l2 (by omega) (by omega) hl2)
  have HL := hidden hl
  clear hl
  by_cases h3 : l2 < nf
  · have e : leftOf l2 nf = -1 := if_pos h3
    rw [e] at H2
    clear e h3 h2
    go_enter Try.func75, Try.ntmps75
    go_wp2_with (first | (go_at_call 86; refine (H1.out _).mono ?_; rintro e w' ⟨rfl, rfl⟩) | (go_at_call 87; refine (H2.out _).mono ?_; rintro e w' ⟨rfl, rfl⟩))
    go_ret
    exact ⟨-1, rfl, (Below.refl _ _).alloc (Nat.le_refl _) _, by omega, by omega, by omega⟩
  · have e : leftOf l2 nf = l2 - nf := if_neg h3
    rw [e] at H2
    clear e
    obtain ⟨l3, hl3⟩ : ∃ l3 : Int, l2 - nf = l3 := ⟨_, rfl⟩
    rw [hl3] at H2
    have g3 : ¬ l3 < 0 := by omega
    have HL3 := hidden hl3
    clear hl3 h2 h3
    go_enter Try.func75, Try.ntmps75
    go_wp2_with (first | (go_at_call 86; refine (H1.out _).mono ?_; rintro e w' ⟨rfl, rfl⟩) | (go_at_call 87; refine (H2.out _).mono ?_; rintro e w' ⟨rfl, rfl⟩))
    go_ret
    have q1 := HL.out
    have q2 := HL3.out
    exact ⟨l3, rfl, (Below.refl _ _).alloc (Nat.le_refl _) _, by omega, by omega, fun _ => by omega⟩
def SizedMK (w : World) (m : Sm) (left : Int) (e : Ending) (w' : World) : Prop :=
  ∃ r : Int, e = .returned (.int .i64 r) ∧ Below w.heap.size w w' ∧ -1 ≤ r ∧ r ≤ 1048576 ∧ (0 ≤ r → r ≤ left ∧ m.name.size ≤ 1048576)
theorem szSymbolK_any (w : World) (m : Sm) (hn : m.name.size ≤ maxLen) (left : Int) (hf0 : 0 ≤ left) (hf1 : left ≤ 1048576) :
    Calls Try.prog 76 #[m.agg, .int .i64 left] w (SizedMK w m left) := by
  obtain ⟨nm, bd, lo, va⟩ := m
  unfold Sm.agg SizedMK
  simp only at hn ⊢
  unfold maxLen at hn
  by_cases h1 : left - (nm.size : Int) < 0
  · go_enter Try.func76, Try.ntmps76
    go_wp2_with fail
    go_ret
    exact ⟨-1, rfl, (Below.refl _ _).alloc (Nat.le_refl _) _, by omega, by omega, by omega⟩
  · go_enter Try.func76, Try.ntmps76
    go_wp2_with fail
    go_ret
    exact ⟨left - (nm.size : Int), rfl, (Below.refl _ _).alloc (Nat.le_refl _) _, by omega, by omega, fun _ => by omega⟩
def SizedSK (w : World) (l : List Sp) (left : Int) (e : Ending) (w' : World) : Prop :=
  ∃ r : Int, e = .returned (.int .i64 r) ∧ Below w.heap.size w w' ∧ -1 ≤ r ∧ r ≤ 1048576 ∧ (0 ≤ r → r ≤ left - l.length ∧ l.length ≤ 1048576 ∧ ∀ y ∈ l, y.s.short)
set_option maxRecDepth 100000 in
set_option maxHeartbeats 1000000 in
theorem szSectionSK_any (w : World) (B : Nat) (a : Option Addr) (c n : Nat) (l : List Sp) (hn : n = l.length) (h : Sects w B a l) (hB : B ≤ w.heap.size) (hlen : n ≤ 9223372036854775807) (hl : ∀ y ∈ l, y.s.lens) (left : Int) (hf0 : 0 ≤ left) (hf1 : left ≤ 1048576) :
    Calls Try.prog 59 #[.slice a n c, .int .i64 left] w (SizedSK w l left) := by
  have HN := hidden hn
  have H1 := hidden h
  have HL := hidden hl
  clear hn h hl
  by_cases h1 : left - (n : Int) < 0
  · go_enter Try.func59, Try.ntmps59
    go_wp2_with fail
    go_ret
    exact ⟨-1, rfl, Below.refl _ _, by omega, by omega, by omega⟩
  have hn1 : n ≤ 1048576 := by omega
  obtain ⟨l0, hl0⟩ : ∃ q : Int, left - (n : Int) = q := ⟨_, rfl⟩
  have HL0 := hidden hl0
  have k0 : 0 ≤ l0 := by omega
  have k1 : l0 ≤ 1048576 := by omega
  go_enter Try.func59, Try.ntmps59
  go_wp2_with fail
  go_loopw [5, 1] (fun i lf wr => ∃ (k : Nat) (x : Int), i = .int .i64 k ∧ lf = .int .i64 x ∧ k ≤ n ∧ 0 ≤ x ∧ x ≤ 1048576 ∧ x ≤ l0 ∧ Hid (∀ y ∈ l.take k, y.s.short) ∧ Below w.heap.size w wr) (fun i _ _ => n - (intOf i).toNat)
  case atStart => exact ⟨0, l0, rfl, by rw [← hl0], by omega, k0, k1, Int.le_refl _, hidden (by simp), Below.refl _ _⟩
  case round =>
    obtain ⟨k, x, rfl, rfl, hk, x0, x1, x2, hs, hb⟩ := hrel
    clear hl0 k0 k1
    by_cases hlt : k < n
    · have hi : (k : Int) < (n : Int) := by omega
      have hkl : k < l.length := by rw [← HN.out]; exact hlt
      obtain ⟨b, off, rfl, _, p0, p1, p2, p3, p4, p5⟩ := (H1.out.below (hb.mono hB)).at_ hkl
      obtain ⟨y, hy⟩ : ∃ y, l[k] = y := ⟨_, rfl⟩
      rw [hy] at p0 p1 p2 p3 p4 p5
      have HY : Hid (l.take (k + 1) = l.take k ++ [y]) := by show _ = _; rw [List.take_add_one, List.getElem?_eq_getElem hkl, hy]; rfl
      have hyl := HL.out y (by rw [← hy]; exact List.getElem_mem hkl)
      have HC := hidden (szSectionK_any wr y.s y.a1 y.c1 y.a2 y.c2 hyl.1 hyl.2.1 hyl.2.2 x x0 x1)
      unfold Sx.agg at HC
      clear hy hyl hkl
      go_wp2_with fail
      refine HC.out.mono ?_
      clear HC p0 p1 p2 p3 p4 p5
      rintro e w2 ⟨r, rfl, hb2, r0, r1, hr⟩
      have hb3 := hb.trans (hb2.mono hb.size)
      clear hb hb2
      by_cases hneg : r < 0
      · clear hr
        go_wp2_with fail
        go_ret
        exact ⟨-1, rfl, hb3, by omega, by omega, by omega⟩
      have HS : Hid (∀ z ∈ l.take (k + 1), z.s.short) := fun z hz => by
        rw [HY.out] at hz
        rcases List.mem_append.1 hz with h | h
        · exact hs.out z h
        · simp only [List.mem_singleton] at h; subst h; exact (hr (by omega)).2
      have hrx := (hr (by omega)).1
      clear hr hs HY
      go_wp2_with fail
      go_roundw
      case rel => exact ⟨k + 1, r, by go_num, rfl, by omega, by omega, r1, by omega, HS, hb3⟩
      case measure => simp [intOf]; omega
    · have hi : ¬ (k : Int) < (n : Int) := by omega
      have hfin : Hid (∀ y ∈ l, y.s.short) := by
        have hkl : l.take k = l := List.take_of_length_le (by rw [← HN.out]; omega)
        rw [← hkl]; exact hs
      clear hs
      go_wp2_with fail
      go_ret
      exact ⟨x, rfl, hb, by omega, x1, fun _ => ⟨by rw [← HN.out, HL0.out]; exact x2, by rw [← HN.out]; exact hn1, hfin.out⟩⟩
def SizedMSK (w : World) (l : List Sm) (left : Int) (e : Ending) (w' : World) : Prop :=
  ∃ r : Int, e = .returned (.int .i64 r) ∧ Below w.heap.size w w' ∧ -1 ≤ r ∧ r ≤ 1048576 ∧ (0 ≤ r → r ≤ left - l.length ∧ l.length ≤ 1048576 ∧ ∀ x ∈ l, x.name.size ≤ 1048576)
set_option maxRecDepth 100000 in
set_option maxHeartbeats 1000000 in
theorem szSymbolSK_any (w : World) (B : Nat) (a : Option Addr) (c n : Nat) (l : List Sm) (hn : n = l.length) (h : Syms w B a l) (hB : B ≤ w.heap.size) (hlen : n ≤ 9223372036854775807) (hl : ∀ y ∈ l, y.name.size ≤ maxLen) (left : Int) (hf0 : 0 ≤ left) (hf1 : left ≤ 1048576) :
    Calls Try.prog 60 #[.slice a n c, .int .i64 left] w (SizedMSK w l left) := by
  have HN := hidden hn
  have H1 := hidden h
  have HL := hidden hl
  clear hn h hl
  by_cases h1 : left - (n : Int) < 0
  · go_enter Try.func60, Try.ntmps60
    go_wp2_with fail
    go_ret
    exact ⟨-1, rfl, Below.refl _ _, by omega, by omega, by omega⟩
  have hn1 : n ≤ 1048576 := by omega
  obtain ⟨l0, hl0⟩ : ∃ q : Int, left - (n : Int) = q := ⟨_, rfl⟩
  have HL0 := hidden hl0
  have k0 : 0 ≤ l0 := by omega
  have k1 : l0 ≤ 1048576 := by omega
  go_enter Try.func60, Try.ntmps60
  go_wp2_with fail
  go_loopw [5, 1] (fun i lf wr => ∃ (k : Nat) (x : Int), i = .int .i64 k ∧ lf = .int .i64 x ∧ k ≤ n ∧ 0 ≤ x ∧ x ≤ 1048576 ∧ x ≤ l0 ∧ Hid (∀ y ∈ l.take k, y.name.size ≤ 1048576) ∧ Below w.heap.size w wr) (fun i _ _ => n - (intOf i).toNat)
  case atStart => exact ⟨0, l0, rfl, by rw [← hl0], by omega, k0, k1, Int.le_refl _, hidden (by simp), Below.refl _ _⟩
  case round =>
    obtain ⟨k, x, rfl, rfl, hk, x0, x1, x2, hs, hb⟩ := hrel
    clear hl0 k0 k1
    by_cases hlt : k < n
    · have hi : (k : Int) < (n : Int) := by omega
      have hkl : k < l.length := by rw [← HN.out]; exact hlt
      obtain ⟨b, off, rfl, _, p0, p1, p2, p3⟩ := (H1.out.below (hb.mono hB)).at_ hkl
      obtain ⟨y, hy⟩ : ∃ y, l[k] = y := ⟨_, rfl⟩
      rw [hy] at p0 p1 p2 p3
      have HY : Hid (l.take (k + 1) = l.take k ++ [y]) := by show _ = _; rw [List.take_add_one, List.getElem?_eq_getElem hkl, hy]; rfl
      have hyl := HL.out y (by rw [← hy]; exact List.getElem_mem hkl)
      have HC := hidden (szSymbolK_any wr y hyl x x0 x1)
      unfold Sm.agg at HC
      clear hy hyl hkl
      go_wp2_with fail
      refine HC.out.mono ?_
      clear HC p0 p1 p2 p3
      rintro e w2 ⟨r, rfl, hb2, r0, r1, hr⟩
      have hb3 := hb.trans (hb2.mono hb.size)
      clear hb hb2
      by_cases hneg : r < 0
      · clear hr
        go_wp2_with fail
        go_ret
        exact ⟨-1, rfl, hb3, by omega, by omega, by omega⟩
      have HS : Hid (∀ z ∈ l.take (k + 1), z.name.size ≤ 1048576) := fun z hz => by
        rw [HY.out] at hz
        rcases List.mem_append.1 hz with h | h
        · exact hs.out z h
        · simp only [List.mem_singleton] at h; subst h; exact (hr (by omega)).2
      have hrx := (hr (by omega)).1
      clear hr hs HY
      go_wp2_with fail
      go_roundw
      case rel => exact ⟨k + 1, r, by go_num, rfl, by omega, by omega, r1, by omega, HS, hb3⟩
      case measure => simp [intOf]; omega
    · have hi : ¬ (k : Int) < (n : Int) := by omega
      have hfin : Hid (∀ y ∈ l, y.name.size ≤ 1048576) := by
        have hkl : l.take k = l := List.take_of_length_le (by rw [← HN.out]; omega)
        rw [← hkl]; exact hs
      clear hs
      go_wp2_with fail
      go_ret
      exact ⟨x, rfl, hb, by omega, x1, fun _ => ⟨by rw [← HN.out, HL0.out]; exact x2, by rw [← HN.out]; exact hn1, hfin.out⟩⟩
def SizedOK (w : World) (l : List Sp) (ms : List Sm) (left : Int) (e : Ending) (w' : World) : Prop :=
  ∃ r : Int, e = .returned (.int .i64 r) ∧ Below w.heap.size w w' ∧ -1 ≤ r ∧ r ≤ 1048576 ∧ (0 ≤ r → r ≤ left - l.length - ms.length ∧ (l.length ≤ 1048576 ∧ ∀ y ∈ l, y.s.short) ∧ ms.length ≤ 1048576 ∧ ∀ x ∈ ms, x.name.size ≤ 1048576)
set_option maxHeartbeats 1000000 in
theorem szObjectK_any (w : World) (B : Nat) (a1 a2 : Option Addr) (c1 c2 n m : Nat) (l : List Sp) (ms : List Sm) (hn : n = l.length) (hm : m = ms.length) (h1 : Sects w B a1 l) (h2 : Syms w B a2 ms) (hB : B ≤ w.heap.size) (hlen : n ≤ 9223372036854775807) (hlem : m ≤ 9223372036854775807)
    (hl : ∀ y ∈ l, y.s.lens) (hs : ∀ x ∈ ms, x.name.size ≤ maxLen) (left : Int) (hf0 : 0 ≤ left) (hf1 : left ≤ 1048576) :
    Calls Try.prog 39 #[.agg #[.slice a1 n c1, .slice a2 m c2], .int .i64 left] w (SizedOK w l ms left) := by
  have hb1 : Below w.heap.size w (w.alloc (.cells #[.slice a1 n c1, .slice a2 m c2] 73)) := (Below.refl _ _).alloc (Nat.le_refl _) _
  have H1 := hidden (szSectionSK_any (w.alloc (.cells #[.slice a1 n c1, .slice a2 m c2] 73)) B a1 c1 n l hn (h1.below (hb1.mono hB)) (Nat.le_trans hB hb1.size) hlen hl left hf0 hf1)
  have H2 := hidden (fun (W : World) (hW : Below w.heap.size w W) (x : Int) (x0 : 0 ≤ x) (x1 : x ≤ 1048576) => szSymbolSK_any W B a2 c2 m ms hm (h2.below (hW.mono hB)) (Nat.le_trans hB hW.size) hlem hs x x0 x1)
  have HB1 := hidden hb1
  clear h1 h2 hn hm hl hs hb1
  go_enter Try.func39, Try.ntmps39
  go_wp2_with fail
  refine H1.out.mono ?_
  clear H1
  rintro e w2 ⟨r, rfl, hb2, r0, r1, hr⟩
  have hb12 : Below w.heap.size w w2 := HB1.out.trans (hb2.mono HB1.out.size)
  have q : w2.cell? ⟨w.heap.size, 1, none⟩ = some (.slice a2 m c2) := (hb2.cell (by simp)).trans ((Has.new w 73 _).cell 1)
  clear hb2
  by_cases hneg : r < 0
  · clear hr
    go_wp2_with fail
    go_ret
    exact ⟨-1, rfl, hb12, by omega, by omega, by omega⟩
  have HR := hidden (hr (by omega))
  clear hr
  go_wp2_with fail
  refine (H2.out w2 hb12 r (by omega) r1).mono ?_
  clear H2
  rintro e w3 ⟨x, rfl, hb3, x0, x1, hx⟩
  have hb13 : Below w.heap.size w w3 := hb12.trans (hb3.mono hb12.size)
  clear hb3 q
  by_cases hneg2 : x < 0
  · clear hx
    go_wp2_with fail
    go_ret
    exact ⟨-1, rfl, hb13, by omega, by omega, by omega⟩
  have HX := hidden (hx (by omega))
  clear hx
  go_wp2_with fail
  go_ret
  have e1 := HR.out.1
  have e2 := HX.out.1
  exact ⟨x, rfl, hb13, by omega, x1, fun _ => ⟨by omega, HR.out.2, HX.out.2⟩⟩
/-- How many sections and symbols objects have. -/
def partsN (L : List Oj) : Nat := (L.map fun y => y.l.length + y.ms.length).sum
theorem partsN_snoc (L : List Oj) (y : Oj) : partsN (L ++ [y]) = partsN L + (y.l.length + y.ms.length) := by unfold partsN; simp
def SizedLK (w : World) (L : List Oj) (e : Ending) (w' : World) : Prop :=
  ∃ r : Int, e = .returned (.int .i64 r) ∧ Below w.heap.size w w' ∧ -1 ≤ r ∧ r ≤ 1048576 ∧ (0 ≤ r → partsN L ≤ 1048576 ∧ L.length ≤ 1048576 ∧ ∀ y ∈ L, y.short)
set_option maxRecDepth 100000 in
set_option maxHeartbeats 1000000 in
theorem szObjectSK_any (w : World) (B : Nat) (a : Option Addr) (c n : Nat) (l : List Oj) (hn : n = l.length) (h : Objs w B a l) (hB : B ≤ w.heap.size) (hlen : n ≤ 9223372036854775807) (hl : ∀ y ∈ l, y.lens) (left : Int) (hf0 : 0 ≤ left) (hf1 : left ≤ 1048576) :
    Calls Try.prog 20 #[.slice a n c, .int .i64 left] w (SizedLK w l) := by
  have HN := hidden hn
  have H1 := hidden h
  have HL := hidden hl
  clear hn h hl
  by_cases h1 : left - (n : Int) < 0
  · go_enter Try.func20, Try.ntmps20
    go_wp2_with fail
    go_ret
    exact ⟨-1, rfl, Below.refl _ _, by omega, by omega, by omega⟩
  have hn1 : n ≤ 1048576 := by omega
  obtain ⟨l0, hl0⟩ : ∃ q : Int, left - (n : Int) = q := ⟨_, rfl⟩
  have k0 : 0 ≤ l0 := by omega
  have k1 : l0 ≤ 1048576 := by omega
  go_enter Try.func20, Try.ntmps20
  go_wp2_with fail
  go_loopw [5, 1] (fun i lf wr => ∃ (k : Nat) (x : Int), i = .int .i64 k ∧ lf = .int .i64 x ∧ k ≤ n ∧ 0 ≤ x ∧ x ≤ 1048576 ∧ Hid (x + partsN (l.take k) ≤ 1048576) ∧ Hid (∀ y ∈ l.take k, y.short) ∧ Below w.heap.size w wr) (fun i _ _ => n - (intOf i).toNat)
  case atStart => exact ⟨0, l0, rfl, by rw [← hl0], by omega, k0, k1, hidden (by simp [partsN]; omega), hidden (by simp), Below.refl _ _⟩
  case round =>
    obtain ⟨k, x, rfl, rfl, hk, x0, x1, hpn, hs, hb⟩ := hrel
    clear hl0 k0 k1
    by_cases hlt : k < n
    · have hi : (k : Int) < (n : Int) := by omega
      have hkl : k < l.length := by rw [← HN.out]; exact hlt
      obtain ⟨b, off, rfl, _, p0, p1⟩ := (H1.out.below (hb.mono hB)).at_ hkl
      obtain ⟨y, hy⟩ : ∃ y, l[k] = y := ⟨_, rfl⟩
      rw [hy] at p0 p1
      have HY : Hid (l.take (k + 1) = l.take k ++ [y]) := by show _ = _; rw [List.take_add_one, List.getElem?_eq_getElem hkl, hy]; rfl
      have hyl := HL.out y (by rw [← hy]; exact List.getElem_mem hkl)
      have hym : y ∈ l := by rw [← hy]; exact List.getElem_mem hkl
      have HC := hidden (szObjectK_any wr B y.a1 y.a2 y.c1 y.c2 _ _ y.l y.ms rfl rfl ((H1.out.secs y hym).below (hb.mono hB)) ((H1.out.syms y hym).below (hb.mono hB)) (Nat.le_trans hB hb.size) hyl.1 hyl.2.1 hyl.2.2.1 hyl.2.2.2 x x0 x1)
      clear hy hyl hkl hym
      go_wp2_with fail
      refine HC.out.mono ?_
      clear HC p0 p1
      rintro e w2 ⟨r, rfl, hb2, r0, r1, hr⟩
      have hb3 := hb.trans (hb2.mono hb.size)
      clear hb hb2
      by_cases hneg : r < 0
      · clear hr
        go_wp2_with fail
        go_ret
        exact ⟨-1, rfl, hb3, by omega, by omega, by omega⟩
      have HS : Hid (∀ z ∈ l.take (k + 1), z.short) := fun z hz => by
        rw [HY.out] at hz
        rcases List.mem_append.1 hz with h | h
        · exact hs.out z h
        · simp only [List.mem_singleton] at h; subst h; exact (hr (by omega)).2
      have HPN : Hid (r + partsN (l.take (k + 1)) ≤ 1048576) := by
        show _ ≤ _
        have e1 := (hr (by omega)).1
        have e2 := hpn.out
        rw [HY.out, partsN_snoc]
        omega
      clear hr hs HY hpn
      go_wp2_with fail
      go_roundw
      case rel => exact ⟨k + 1, r, by go_num, rfl, by omega, by omega, r1, HPN, HS, hb3⟩
      case measure => simp [intOf]; omega
    · have hi : ¬ (k : Int) < (n : Int) := by omega
      have hpf : Hid (partsN l ≤ 1048576) := by
        have hkl : l.take k = l := List.take_of_length_le (by rw [← HN.out]; omega)
        have e := hpn.out
        rw [hkl] at e
        show _ ≤ _
        omega
      have hfin : Hid (∀ y ∈ l, y.short) := by
        have hkl : l.take k = l := List.take_of_length_le (by rw [← HN.out]; omega)
        rw [← hkl]; exact hs
      clear hs
      go_wp2_with fail
      go_ret
      exact ⟨x, rfl, hb, by omega, x1, fun _ => ⟨hpf.out, by rw [← HN.out]; exact hn1, hfin.out⟩⟩

end Go.Proofs.Ytiocchmlmcoieaa

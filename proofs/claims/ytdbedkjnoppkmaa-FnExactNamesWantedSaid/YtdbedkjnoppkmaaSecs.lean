/-
  Sections in a list in memory.
-/
import Derived.Test.YtdbedkjnoppkmaaSectL
import Derived.Test.YtdbedkjnoppkmaaSym
namespace Go.Proofs.Ytdbedkjnoppkmaa
open Go.RowKit

/-- What szSection answers, whatever was left: -1, or a number that tells that nothing is long. -/
def SizedG (w : World) (s : Sx) (e : Ending) (w' : World) : Prop :=
  ∃ r : Int, e = .returned (.int .i64 r) ∧ Below w.heap.size w w' ∧ -1 ≤ r ∧ r ≤ 1048576 ∧ (0 ≤ r → s.name.size ≤ 1048576 ∧ s.bytes.length ≤ 1048576 ∧ s.fixs.length ≤ 1048576)
set_option maxHeartbeats 1000000 in
theorem szSectionG_any (w : World) (s : Sx) (a1 : Option Addr) (c1 : Nat) (a2 : Option Addr) (c2 : Nat) (hn : s.name.size ≤ maxLen) (hl1 : s.bytes.length ≤ 9223372036854775807) (hl2 : s.fixs.length ≤ 9223372036854775807) (left : Int) (hf0 : 0 ≤ left) (hf1 : left ≤ 1048576) :
    Calls Try.prog 52 #[s.agg a1 c1 a2 c2, .int .i64 left] w (SizedG w s) := by
  obtain ⟨nm, kind, al, bs, sz, fs⟩ := s
  unfold Sx.agg SizedG
  simp only at hn hl1 hl2 ⊢
  unfold maxLen at hn
  generalize bs.length = nb at hl1 ⊢
  generalize fs.length = nf at hl2 ⊢
  by_cases h1 : left - (nm.size : Int) < 0
  · go_enter Try.func52, Try.ntmps52
    go_wp2_with fail
    go_ret
    exact ⟨-1, rfl, (Below.refl _ _).alloc (Nat.le_refl _) _, by omega, by omega, by omega⟩
  have H1 := hidden (fun W => szByteS_any W a1 c1 nb (left - nm.size) (by omega) (by omega) hl1)
  by_cases h2 : left - nm.size < nb
  · have e : leftOf (left - nm.size) nb = -1 := if_pos h2
    rw [e] at H1
    clear e h2
    go_enter Try.func52, Try.ntmps52
    go_wp2_with (go_at_call 72; refine (H1.out _).mono ?_; rintro e w' ⟨rfl, rfl⟩)
    go_ret
    exact ⟨-1, rfl, (Below.refl _ _).alloc (Nat.le_refl _) _, by omega, by omega, by omega⟩
  have e : leftOf (left - nm.size) nb = left - nm.size - nb := if_neg h2
  rw [e] at H1
  clear e
  obtain ⟨l2, hl⟩ : ∃ l2 : Int, left - (nm.size : Int) - nb = l2 := ⟨_, rfl⟩
  rw [hl] at H1
  have g2 : ¬ l2 < 0 := by omega
  have H2 := hidden (fun W => szFixupS_any W a2 c2 nf l2 (by omega) (by omega) hl2)
  have HL := hidden hl
  clear hl
  by_cases h3 : l2 < nf
  · have e : leftOf l2 nf = -1 := if_pos h3
    rw [e] at H2
    clear e h3 h2
    go_enter Try.func52, Try.ntmps52
    go_wp2_with (first | (go_at_call 72; refine (H1.out _).mono ?_; rintro e w' ⟨rfl, rfl⟩) | (go_at_call 73; refine (H2.out _).mono ?_; rintro e w' ⟨rfl, rfl⟩))
    go_ret
    exact ⟨-1, rfl, (Below.refl _ _).alloc (Nat.le_refl _) _, by omega, by omega, by omega⟩
  · have e : leftOf l2 nf = l2 - nf := if_neg h3
    rw [e] at H2
    clear e
    obtain ⟨l3, hl3⟩ : ∃ l3 : Int, l2 - nf = l3 := ⟨_, rfl⟩
    rw [hl3] at H2
    have g3 : ¬ l3 < 0 := by omega
    have HL3 := hidden hl3
    clear hl3 h2 h3
    go_enter Try.func52, Try.ntmps52
    go_wp2_with (first | (go_at_call 72; refine (H1.out _).mono ?_; rintro e w' ⟨rfl, rfl⟩) | (go_at_call 73; refine (H2.out _).mono ?_; rintro e w' ⟨rfl, rfl⟩))
    go_ret
    have q1 := HL.out
    have q2 := HL3.out
    exact ⟨l3, rfl, (Below.refl _ _).alloc (Nat.le_refl _) _, by omega, by omega, fun _ => by omega⟩
/-- A section and where its lists lie. -/
structure Sp where
  s : Sx
  a1 : Option Addr
  c1 : Nat
  a2 : Option Addr
  c2 : Nat
def Sp.agg (y : Sp) : Value := y.s.agg y.a1 y.c1 y.a2 y.c2
/-- The cells of a section at a place. -/
def SecAt (w : World) (b o : Nat) (y : Sp) : Prop :=
  w.cell? ⟨b, o, none⟩ = some (.string y.s.name) ∧ w.cell? ⟨b, o + 1, none⟩ = some (.int .i64 y.s.kind) ∧ w.cell? ⟨b, o + 2, none⟩ = some (.int .i64 y.s.align) ∧
  w.cell? ⟨b, o + 3, none⟩ = some (.slice y.a1 y.s.bytes.length y.c1) ∧ w.cell? ⟨b, o + 4, none⟩ = some (.int .i64 y.s.size) ∧ w.cell? ⟨b, o + 5, none⟩ = some (.slice y.a2 y.s.fixs.length y.c2)
/-- The slice at address 'a' holds these sections, below 'B' with all that they lead to. -/
structure Sects (w : World) (B : Nat) (a : Option Addr) (l : List Sp) : Prop where
  row : 0 < l.length → ∃ b off, a = some ⟨b, off, none⟩ ∧ b < B ∧ ∀ i y, l[i]? = some y → SecAt w b (off + i * 6) y
  bytes : ∀ y ∈ l, Ints w .u8 B y.a1 y.s.bytes
  fixs : ∀ y ∈ l, Fixs w B y.a2 y.s.fixs
section
variable {w w' : World} {B B' : Nat} {a : Option Addr} {l : List Sp}
theorem SecAt.keep {b o : Nat} {y : Sp} (h : SecAt w b o y) (hk : ∀ i, w'.cell? ⟨b, i, none⟩ = w.cell? ⟨b, i, none⟩) : SecAt w' b o y :=
  ⟨(hk _).trans h.1, (hk _).trans h.2.1, (hk _).trans h.2.2.1, (hk _).trans h.2.2.2.1, (hk _).trans h.2.2.2.2.1, (hk _).trans h.2.2.2.2.2⟩
theorem Sects.keep (h : Sects w B a l) (hk : ∀ p : Addr, p.block < B → w'.cell? p = w.cell? p) : Sects w' B a l :=
  ⟨fun hn => by
    obtain ⟨b, off, ha, hb, hc⟩ := h.row hn
    exact ⟨b, off, ha, hb, fun i y hi => (hc i y hi).keep fun _ => hk _ hb⟩, fun y hy => (h.bytes y hy).keep hk, fun y hy => (h.fixs y hy).keep hk⟩
theorem Sects.more (h : Sects w B a l) (hB : B ≤ B') : Sects w B' a l :=
  ⟨fun hn => by
    obtain ⟨b, off, ha, hb, hc⟩ := h.row hn
    exact ⟨b, off, ha, by omega, hc⟩, fun y hy => (h.bytes y hy).more hB, fun y hy => (h.fixs y hy).more hB⟩
theorem Sects.below (h : Sects w B a l) (hb : Below B w w') : Sects w' B a l := h.keep fun _ hp => hb.cell hp
theorem Sects.drewN (h : Sects w B a l) (n : Nat) : Sects (w.drewN n) B a l := ⟨h.row, h.bytes, h.fixs⟩
theorem Sects.alloc (h : Sects w B a l) (hB : B ≤ w.heap.size) (o : Obj) : Sects (w.alloc o) B a l := h.keep fun p hp => World.cell?_alloc_lt w o p (by omega)
theorem Sects.nil : Sects w B a [] := ⟨fun h => by simp at h, by simp, by simp⟩
theorem Sects.at_ (h : Sects w B a l) {i : Nat} (hi : i < l.length) : ∃ b off, a = some ⟨b, off, none⟩ ∧ b < B ∧ SecAt w b (off + i * 6) l[i] := by
  obtain ⟨b, off, ha, hb, hc⟩ := h.row (by omega)
  exact ⟨b, off, ha, hb, hc i _ (List.getElem?_eq_getElem hi)⟩
end
/-- Nothing in a section is long. -/
def Sx.short (s : Sx) : Prop := s.name.size ≤ 1048576 ∧ s.bytes.length ≤ 1048576 ∧ s.fixs.length ≤ 1048576
/-- The lengths in a section are lengths of the machine. -/
def Sx.lens (s : Sx) : Prop := s.name.size ≤ maxLen ∧ s.bytes.length ≤ 9223372036854775807 ∧ s.fixs.length ≤ 9223372036854775807
def SizedS (w : World) (l : List Sp) (e : Ending) (w' : World) : Prop :=
  ∃ r : Int, e = .returned (.int .i64 r) ∧ Below w.heap.size w w' ∧ -1 ≤ r ∧ r ≤ 1048576 ∧ (0 ≤ r → l.length ≤ 1048576 ∧ ∀ y ∈ l, y.s.short)
set_option maxRecDepth 100000 in
set_option maxHeartbeats 1000000 in
theorem szSectionS_any (w : World) (B : Nat) (a : Option Addr) (c n : Nat) (l : List Sp) (hn : n = l.length) (h : Sects w B a l) (hB : B ≤ w.heap.size) (hlen : n ≤ 9223372036854775807) (hl : ∀ y ∈ l, y.s.lens) (left : Int) (hf0 : 0 ≤ left) (hf1 : left ≤ 1048576) :
    Calls Try.prog 23 #[.slice a n c, .int .i64 left] w (SizedS w l) := by
  have HN := hidden hn
  have H1 := hidden h
  have HL := hidden hl
  clear hn h hl
  by_cases h1 : left - (n : Int) < 0
  · go_enter Try.func23, Try.ntmps23
    go_wp2_with fail
    go_ret
    exact ⟨-1, rfl, Below.refl _ _, by omega, by omega, by omega⟩
  have hn1 : n ≤ 1048576 := by omega
  obtain ⟨l0, hl0⟩ : ∃ q : Int, left - (n : Int) = q := ⟨_, rfl⟩
  have k0 : 0 ≤ l0 := by omega
  have k1 : l0 ≤ 1048576 := by omega
  go_enter Try.func23, Try.ntmps23
  go_wp2_with fail
  go_loopw [5, 1] (fun i lf wr => ∃ (k : Nat) (x : Int), i = .int .i64 k ∧ lf = .int .i64 x ∧ k ≤ n ∧ 0 ≤ x ∧ x ≤ 1048576 ∧ Hid (∀ y ∈ l.take k, y.s.short) ∧ Below w.heap.size w wr) (fun i _ _ => n - (intOf i).toNat)
  case atStart => exact ⟨0, l0, rfl, by rw [← hl0], by omega, k0, k1, hidden (by simp), Below.refl _ _⟩
  case round =>
    obtain ⟨k, x, rfl, rfl, hk, x0, x1, hs, hb⟩ := hrel
    clear hl0 k0 k1
    by_cases hlt : k < n
    · have hi : (k : Int) < (n : Int) := by omega
      have hkl : k < l.length := by rw [← HN.out]; exact hlt
      obtain ⟨b, off, rfl, _, p0, p1, p2, p3, p4, p5⟩ := (H1.out.below (hb.mono hB)).at_ hkl
      obtain ⟨y, hy⟩ : ∃ y, l[k] = y := ⟨_, rfl⟩
      rw [hy] at p0 p1 p2 p3 p4 p5
      have HY : Hid (l.take (k + 1) = l.take k ++ [y]) := by show _ = _; rw [List.take_add_one, List.getElem?_eq_getElem hkl, hy]; rfl
      have hyl := HL.out y (by rw [← hy]; exact List.getElem_mem hkl)
      have HC := hidden (szSectionG_any wr y.s y.a1 y.c1 y.a2 y.c2 hyl.1 hyl.2.1 hyl.2.2 x x0 x1)
      unfold Sx.agg at HC
      clear hy hyl hkl
      go_wp2_with fail
      refine HC.out.mono ?_
      clear HC p0 p1 p2 p3 p4 p5
      rintro e w2 ⟨r, rfl, hb2, r0, r1, hr⟩
      have hb3 := hb.trans (hb2.mono hb.size)
      clear hb hb2
      by_cases hneg : r < 0
      · clear hr
        go_wp2_with fail
        go_ret
        exact ⟨-1, rfl, hb3, by omega, by omega, by omega⟩
      have HS : Hid (∀ z ∈ l.take (k + 1), z.s.short) := fun z hz => by
        rw [HY.out] at hz
        rcases List.mem_append.1 hz with h | h
        · exact hs.out z h
        · simp only [List.mem_singleton] at h; subst h; exact hr (by omega)
      clear hr hs HY
      go_wp2_with fail
      go_roundw
      case rel => exact ⟨k + 1, r, by go_num, rfl, by omega, by omega, r1, HS, hb3⟩
      case measure => simp [intOf]; omega
    · have hi : ¬ (k : Int) < (n : Int) := by omega
      have hfin : Hid (∀ y ∈ l, y.s.short) := by
        have hkl : l.take k = l := List.take_of_length_le (by rw [← HN.out]; omega)
        rw [← hkl]; exact hs
      clear hs
      go_wp2_with fail
      go_ret
      exact ⟨x, rfl, hb, by omega, x1, fun _ => ⟨by rw [← HN.out]; exact hn1, hfin.out⟩⟩

end Go.Proofs.Ytdbedkjnoppkmaa

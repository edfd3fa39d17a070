/-
  Marks over an object, and over a list of names that is its own.
-/
import Derived.Test.YtdbedkjnoppkmaaMarkO
import Derived.Test.YtdbedkjnoppkmaaEqS
namespace Go.Proofs.Ytdbedkjnoppkmaa
open Go.RowKit

/-- A list of names in a row of its own, not ahead of a block. -/
def RowS (W : World) (lo : Nat) (a : Option Addr) (S : List ByteArray) : Prop :=
  0 < S.length → ∃ (g : Nat) (cs : Array Value), a = some ⟨g, 0, none⟩ ∧ lo ≤ g ∧ Has W g 9 cs ∧ S.length ≤ cs.size ∧ ∀ (i : Nat) (s : ByteArray), S[i]? = some s → cs[i]? = some (Value.string s)
theorem RowS.below {W W' : World} {lo : Nat} {a : Option Addr} {S : List ByteArray} (h : RowS W lo a S) (hb : Below W.heap.size W W') : RowS W' lo a S := fun hn => by
  obtain ⟨g, cs, h1, h2, h3, h4, h5⟩ := h hn
  exact ⟨g, cs, h1, h2, h3.below hb h3.lt, h4, h5⟩
theorem RowS.mk {W W' : World} {lo l h' : Nat} {a : Option Addr} {S : List ByteArray} (h : RowS W lo a S) (hm : Mk l h' W W') (hl : h' ≤ lo) : RowS W' lo a S := fun hn => by
  obtain ⟨g, cs, h1, h2, h3, h4, h5⟩ := h hn
  exact ⟨g, cs, h1, h2, (hm.block g h3.lt (.inr (by omega))).trans h3, h4, h5⟩
theorem RowS.drewN {W : World} {lo : Nat} {a : Option Addr} {S : List ByteArray} (h : RowS W lo a S) (n : Nat) : RowS (W.drewN n) lo a S := h
theorem RowS.vals {W : World} {lo : Nat} {a : Option Addr} {S : List ByteArray} (h : RowS W lo a S) : Vals W W.heap.size a (S.map Value.string) := fun hn => by
  obtain ⟨g, cs, h1, h2, h3, h4, h5⟩ := h (by simpa using hn)
  refine ⟨g, 0, h1, h3.lt, fun i v hv => ?_⟩
  rw [List.getElem?_map] at hv
  rcases hs : S[i]? with _ | s
  · rw [hs] at hv; cases hv
  · rw [hs] at hv
    injection hv with hv
    rw [Nat.zero_add, h3.cell i, h5 i s hs, hv]
/-- A row of marks. -/
def RowM (W : World) (lo : Nat) (a : Option Addr) (n : Nat) : Prop :=
  0 < n → ∃ g, a = some ⟨g, 0, none⟩ ∧ lo ≤ g ∧ g < W.heap.size ∧ ∀ i, i < n → W.cell? ⟨g, i, none⟩ = some (.string (markOf (1 + i)))
theorem RowM.below {W W' : World} {lo : Nat} {a : Option Addr} {n : Nat} (h : RowM W lo a n) (hb : Below W.heap.size W W') : RowM W' lo a n := fun hn => by
  obtain ⟨g, h1, h2, h3, h4⟩ := h hn
  exact ⟨g, h1, h2, Nat.lt_of_lt_of_le h3 hb.size, fun i hi => (hb.cell (by show g < _; exact h3)).trans (h4 i hi)⟩
theorem RowM.drewN {W : World} {lo : Nat} {a : Option Addr} {n : Nat} (h : RowM W lo a n) (q : Nat) : RowM (W.drewN q) lo a n := h
theorem mark_row (W : World) (lo n c : Nat) (a : Option Addr) (S : List ByteArray) (hn : n = S.length) (h : RowS W lo a S) (hlen : n ≤ 1048576) :
    Calls Try.prog 32 #[.slice a n c, .int .i64 1] W fun e w' => e = .returned (.int .i64 (1 + n)) ∧ RowM w' lo a n ∧ Mk lo W.heap.size W w' := by
  rcases Nat.eq_zero_or_pos n with h0 | hp
  · subst h0
    refine (markStringS_nil W a c 1).mono ?_
    rintro e w' ⟨rfl, rfl⟩
    exact ⟨by simp, fun h => by omega, Mk.refl _⟩
  · obtain ⟨g, cs, rfl, h2, h3, h4, h5⟩ := h (by omega)
    refine (markStringS_full W g n c cs 1 h3 ⟨by omega, fun j hj => ⟨S[j]'(by omega), h5 j _ (List.getElem?_eq_getElem (by omega))⟩⟩ (by omega) (by omega)).mono ?_
    rintro e w' ⟨rfl, ⟨c', hc', hcs, hm⟩, hg⟩
    exact ⟨rfl, fun _ => ⟨g, rfl, h2, hc'.lt, fun i hi => (hc'.cell i).trans (hm.2 i hi)⟩, Mk.of_grown hg h2 h3.lt h3 hc' hcs⟩
theorem held_row (W : World) (lo n c : Nat) (a : Option Addr) (h : RowM W lo a n) (hlen : n ≤ 1048576) :
    Calls Try.prog 33 #[.slice a n c, .int .i64 1] W fun e w' => e = .returned (.int .i64 (1 + n)) ∧ Below W.heap.size W w' := by
  rcases Nat.eq_zero_or_pos n with h0 | hp
  · subst h0
    refine (heldStringS_nil W a c 1).mono ?_
    rintro e w' ⟨rfl, rfl⟩
    exact ⟨by simp, Below.refl _ _⟩
  · obtain ⟨g, rfl, h2, h3, h4⟩ := h hp
    exact heldStringS_full W g n c 1 h3 h4 (by omega) (by omega)
set_option maxHeartbeats 1000000 in
theorem markObject_mk (w : World) (lo hi g1 g2 n m d1 d2 : Nat) (l : List Sp) (cs cm : Array Value) (k : Int) (hn : n = l.length) (h : Has w g1 61 cs) (hx : KeptX cs n l) (hl : lo ≤ g1) (hh : g1 < hi) (hf : ∀ y ∈ l, Far g1 w y) (hbd : ∀ y ∈ l, ∀ b, (y.a1 = some ⟨b, 0, none⟩ ∨ y.a2 = some ⟨b, 0, none⟩) → b < hi) (hs : ∀ y ∈ l, y.s.short)
    (h2 : Has w g2 24 cm) (hm : cm.size = m * 4) (hl2 : lo ≤ g2) (hh2 : g2 < hi) (hn1 : n ≤ 1048576) (hm1 : m ≤ 1048576) (hk : 0 ≤ k) (hb : k ≤ 1048576) (hhi : hi ≤ w.heap.size) :
    Calls Try.prog 31 #[.agg #[.slice (some ⟨g1, 0, none⟩) n d1, .slice (some ⟨g2, 0, none⟩) m d2], .int .i64 k] w fun e w' => ∃ r : Int, e = .returned (.int .i64 r) ∧ 0 ≤ r ∧ Mk lo hi w w' := by
  have hbA : Below w.heap.size w (w.alloc (.cells #[.slice (some ⟨g1, 0, none⟩) n d1, .slice (some ⟨g2, 0, none⟩) m d2] 33)) := (Below.refl _ _).alloc (Nat.le_refl _) _
  have hsz : (w.alloc (.cells #[.slice (some ⟨g1, 0, none⟩) n d1, .slice (some ⟨g2, 0, none⟩) m d2] 33)).heap.size = w.heap.size + 1 := by simp
  have HBX : Hid (Has (w.alloc (.cells #[.slice (some ⟨g1, 0, none⟩) n d1, .slice (some ⟨g2, 0, none⟩) m d2] 33)) w.heap.size 33 #[.slice (some ⟨g1, 0, none⟩) n d1, .slice (some ⟨g2, 0, none⟩) m d2]) := Has.new _ _ _
  have H1 := hidden (markSectionS_mk (w.alloc (.cells #[.slice (some ⟨g1, 0, none⟩) n d1, .slice (some ⟨g2, 0, none⟩) m d2] 33)) lo hi g1 n d1 l cs k hn (h.alloc _) hx hl hh (fun y hy => (hf y hy).below hbA) hbd hs hn1 hk hb)
  have HM0 : Hid (Mk lo hi w (w.alloc (.cells #[.slice (some ⟨g1, 0, none⟩) n d1, .slice (some ⟨g2, 0, none⟩) m d2] 33))) := Mk.of_below hbA
  have H2 := hidden (h2.alloc (.cells #[.slice (some ⟨g1, 0, none⟩) n d1, .slice (some ⟨g2, 0, none⟩) m d2] 33))
  have HSZ := hidden hsz
  clear hn h hx hf hbd hs h2 hbA hsz
  go_enter Try.func31, Try.ntmps31
  go_wp2_with fail
  refine H1.out.mono ?_
  clear H1
  rintro e w2 ⟨r, rfl, r0, r1, hm2⟩
  have q1 : w2.cell? ⟨w.heap.size, 1, none⟩ = some (.slice (some ⟨g2, 0, none⟩) m d2) := (hm2.cell (by show w.heap.size < _; rw [HSZ.out]; omega) (.inr (by show hi ≤ w.heap.size; exact hhi))).trans (HBX.out.cell 1)
  obtain ⟨c2, hc2, hc2s⟩ := hm2.shape g2 _ cm H2.out
  have HS := hidden (markSymbolS_form w2 g2 m d2 c2 r hc2 (by rw [hc2s, hm]) (by omega) (by omega))
  have HC2 := hidden hc2
  have HM2 : Hid (Mk lo hi w w2) := HM0.out.trans hm2
  clear hm2 hc2 hc2s HM0 H2
  go_wp2_with fail
  refine HS.out.mono ?_
  clear HS
  rintro e w3 ⟨rfl, ⟨c3, hc3, hc3s⟩, hg3⟩
  have HM3 : Hid (Mk lo hi w w3) := HM2.out.trans (Mk.of_grown hg3 hl2 hh2 HC2.out hc3 hc3s)
  clear hg3 hc3 hc3s q1
  go_wp2_with fail
  go_ret
  exact ⟨_, rfl, by omega, HM3.out⟩

end Go.Proofs.Ytdbedkjnoppkmaa

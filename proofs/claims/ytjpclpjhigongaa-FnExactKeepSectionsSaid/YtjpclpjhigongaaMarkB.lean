/-
  What the laws' marks leave of answers that are objects.
-/
import Derived.WalkSpells
import Derived.WalkLawsBesides
import Derived.Handy
import Derived.Laws.BytesArg
import Derived.Deep.QuietTactic
import Derived.BigQuiet
import Derived.Deep.OwnRows
import Derived.Test.YtjpclpjhigongaaMarkR
import Derived.Test.YtjpclpjhigongaaAnsK
import Derived.Test.YtjpclpjhigongaaObj
import Derived.Test.YtjpclpjhigongaaBase
import Derived.Test.YtjpclpjhigongaaRegion
import Derived.Test.YtjpclpjhigongaaDrawN
namespace Go.Proofs.Ytjpclpjhigongaa
open Go.RowKit

/-- An answer is not great. -/
def FewA (A : List Sx × List Sm) (N M : Nat) : Prop := N ≤ 8 ∧ M ≤ 12 ∧ ∀ s ∈ A.1, s.lens ∧ s.bytes.length ≤ 48 ∧ s.fixs.length ≤ 6
theorem startS_few {L : List Sp} (h : L.length ≤ 8) (hs : ∀ y ∈ L, y.s.bytes.length ≤ 48 ∧ y.s.fixs.length ≤ 6) : startS L L.length ≤ 1000000 := by
  have hc : ∀ q : List Sp, (∀ y ∈ q, costS y ≤ 1000) → (q.map costS).sum ≤ 1000 * q.length := by
    intro q
    induction q with
    | nil => intro _; simp
    | cons z r ih =>
      intro hq
      have h1 := hq z (by simp)
      have h2 := ih (fun u hu => hq u (by simp [hu]))
      rw [List.map_cons, List.sum_cons, List.length_cons]
      omega
  have := hc L (fun y hy => by obtain ⟨p2, p3⟩ := hs y hy; unfold costS; omega)
  unfold startS
  rw [List.take_length]
  omega
theorem own_mk {W W' : World} {base : Nat} {T : TypeId} {size : Nat} {v : Value} {n : Nat} {xs : List Value} {l h' : Nat} (h : W.ownsRow base T size v n xs) (hm : Mk l h' W W') (hl : h' ≤ base) : W'.ownsRow base T size v n xs :=
  ⟨h.1, h.2.imp id fun ⟨g, cap, cur, e, hb, hh, hr⟩ => ⟨g, cap, cur, e, hb, (hm.block g (by have hh' : Has W g T cur := hh; exact hh'.lt) (.inr (by omega))).trans hh, hr⟩⟩
theorem OwnR.marked {W W' : World} {lo : Nat} {a1 a2 : Option Addr} {n m c1 c2 : Nat} {ss : List Sp} {ms : List Sm} {l h' : Nat} (h : OwnR W lo a1 a2 n m c1 c2 ss ms) (hm : Mk l h' W W') (hl : h' ≤ lo) : OwnR W' lo a1 a2 n m c1 c2 ss ms :=
  ⟨Nat.le_trans h.low hm.size, h.len, h.lem, ⟨own_mk h.secs.row hm hl, h.secs.wf, fun y hy => own_mk (h.secs.own1 y hy) hm hl, fun y hy => own_mk (h.secs.own2 y hy) hm hl, h.secs.apart⟩, own_mk h.syms hm hl⟩
theorem Has.mkK {w w' : World} {lo hi g : Nat} {t : TypeId} {cs : Array Value} (h : Has w g t cs) (hm : Mk lo hi w w') (ho : g < lo ∨ hi ≤ g) : Has w' g t cs := (hm.block g h.lt ho).trans h
theorem Mk.belowK {w w0 w' : World} {lo hi B : Nat} (h : Below B w0 w) (hm : Mk lo hi w w') (hB : B ≤ lo) (hs : B ≤ w.heap.size) : Below B w0 w' :=
  ⟨hm.os.trans h.os, hm.tape.trans h.tape, hm.output.trans h.output, Nat.le_trans h.size hm.size, fun b hb => (hm.block b (by omega) (.inl (by omega))).trans (h.block b hb)⟩

end Go.Proofs.Ytjpclpjhigongaa
namespace Go.Proofs.Ytjpclpjhigongaa
open Go.RowKit

/-- What the size of a list of texts tells: where it is not negative, the list and its texts are short. -/
def Sized (w : World) (ss : List ByteArray) (left : Int) (e : Ending) (w' : World) : Prop := ∃ r : Int, e = .returned (.int .i64 r) ∧ w = w' ∧ -1 ≤ r ∧ r ≤ left ∧ (0 ≤ r → (ss.length : Int) ≤ left ∧ ∀ s ∈ ss, (s.size : Int) ≤ left)




























































end Go.Proofs.Ytjpclpjhigongaa
namespace Go.Proofs.Ytjpclpjhigongaa
open Go.RowKit

def FilledTx (cs : Array Value) (ss : List ByteArray) (n : Nat) : Prop := cs.size = ss.length ∧ ∀ j, j < n → cs[j]? = (ss.map Value.string)[j]?
theorem FilledTx.next {cs : Array Value} {ss : List ByteArray} {n : Nat} {u : Value} (h : FilledTx cs ss n) (hn : (ss.map Value.string)[n]? = some u) : FilledTx (cs.setIfInBounds n u) ss (n + 1) := by
  have hl : n < ss.length := by
    rcases Nat.lt_or_ge n ss.length with h1 | h1
    · exact h1
    · rw [List.getElem?_eq_none (by simpa using h1)] at hn; cases hn
  refine ⟨by simp [h.1], fun j hj => ?_⟩
  rw [Array.getElem?_setIfInBounds]
  by_cases e : n = j
  · subst e; rw [if_pos rfl, if_pos (by rw [h.1]; exact hl), hn]
  · rw [if_neg e]; exact h.2 j (by omega)
theorem FilledTx.all {cs : Array Value} {ss : List ByteArray} {n : Nat} (h : FilledTx cs ss n) (hn : n = ss.length) : cs = (ss.map Value.string).toArray := by
  apply Array.ext_getElem?
  intro i
  by_cases hi : i < ss.length
  · rw [h.2 i (by omega)]; simp
  · rw [Array.getElem?_eq_none (by rw [h.1]; omega), Array.getElem?_eq_none (by simp; omega)]










































end Go.Proofs.Ytjpclpjhigongaa
namespace Go.Proofs.Ytjpclpjhigongaa
open Go.RowKit

theorem vals_has {W : World} {x : Nat} {K : List ByteArray} (h : Has W x 9 (K.map Value.string).toArray) : Vals W W.heap.size (some ⟨x, 0, none⟩) (K.map Value.string) := fun _ =>
  ⟨x, 0, rfl, h.lt, fun i u hi => by rw [Nat.zero_add, h.cell, List.getElem?_toArray]; exact hi⟩
theorem texts_has {K : List ByteArray} {n : Nat} (hn : n = K.length) : TextsL (K.map Value.string).toArray n :=
  ⟨by simp [hn], fun j hj => ⟨K[j]'(by omega), by rw [List.getElem?_toArray, List.getElem?_map, List.getElem?_eq_getElem (by omega)]; rfl⟩⟩
set_option maxRecDepth 100000 in
set_option maxHeartbeats 2000000 in
theorem markObject_mkB (w : World) (lo hi g1 g2 n m d1 d2 : Nat) (l : List Sp) (cs cm : Array Value) (k : Int) (hn : n = l.length) (h : Has w g1 64 cs) (hx : KeptX cs n l) (hl : lo ≤ g1) (hh : g1 < hi) (hf : ∀ y ∈ l, Far g1 w y) (hbd : ∀ y ∈ l, ∀ b, (y.a1 = some ⟨b, 0, none⟩ ∨ y.a2 = some ⟨b, 0, none⟩) → b < hi) (hs : ∀ y ∈ l, y.s.short)
    (h2 : Has w g2 59 cm) (hm : cm.size = m * 4) (hl2 : lo ≤ g2) (hh2 : g2 < hi) (hn1 : n ≤ 1048576) (hm1 : m ≤ 1048576) (hk : 0 ≤ k) (hb : k ≤ 1048576) (hhi : hi ≤ w.heap.size) :
    Calls Try.prog 16 #[.agg #[.slice (some ⟨g1, 0, none⟩) n d1, .slice (some ⟨g2, 0, none⟩) m d2], .int .i64 k] w fun e w' => ∃ r : Int, e = .returned (.int .i64 r) ∧ 0 ≤ r ∧ r ≤ k + 8388608 * n + 4 * m ∧ Mk lo hi w w' := by
  have hbA : Below w.heap.size w (w.alloc (.cells #[.slice (some ⟨g1, 0, none⟩) n d1, .slice (some ⟨g2, 0, none⟩) m d2] 26)) := (Below.refl _ _).alloc (Nat.le_refl _) _
  have hsz : (w.alloc (.cells #[.slice (some ⟨g1, 0, none⟩) n d1, .slice (some ⟨g2, 0, none⟩) m d2] 26)).heap.size = w.heap.size + 1 := by simp
  have HBX : Hid (Has (w.alloc (.cells #[.slice (some ⟨g1, 0, none⟩) n d1, .slice (some ⟨g2, 0, none⟩) m d2] 26)) w.heap.size 26 #[.slice (some ⟨g1, 0, none⟩) n d1, .slice (some ⟨g2, 0, none⟩) m d2]) := Has.new _ _ _
  have H1 := hidden (markSectionS_mk (w.alloc (.cells #[.slice (some ⟨g1, 0, none⟩) n d1, .slice (some ⟨g2, 0, none⟩) m d2] 26)) lo hi g1 n d1 l cs k hn (h.alloc _) hx hl hh (fun y hy => (hf y hy).below hbA) hbd hs hn1 hk hb)
  have HM0 : Hid (Mk lo hi w (w.alloc (.cells #[.slice (some ⟨g1, 0, none⟩) n d1, .slice (some ⟨g2, 0, none⟩) m d2] 26))) := Mk.of_below hbA
  have H2 := hidden (h2.alloc (.cells #[.slice (some ⟨g1, 0, none⟩) n d1, .slice (some ⟨g2, 0, none⟩) m d2] 26))
  have HSZ := hidden hsz
  clear hn h hx hf hbd hs h2 hbA hsz
  go_enter Try.func16, Try.ntmps16
  go_wp2_with fail
  refine H1.out.mono ?_
  clear H1
  rintro e w2 ⟨r, rfl, r0, r1, hm2⟩
  have q1 : w2.cell? ⟨w.heap.size, 1, none⟩ = some (.slice (some ⟨g2, 0, none⟩) m d2) := (hm2.cell (by show w.heap.size < _; rw [HSZ.out]; omega) (.inr (by show hi ≤ w.heap.size; exact hhi))).trans (HBX.out.cell 1)
  obtain ⟨c2, hc2, hc2s⟩ := hm2.shape g2 _ cm H2.out
  have HS := hidden (markSymbolS_form w2 g2 m d2 c2 r hc2 (by rw [hc2s, hm]) (by omega) (by omega))
  have HC2 := hidden hc2
  have HM2 : Hid (Mk lo hi w w2) := HM0.out.trans hm2
  clear hm2 hc2 hc2s HM0 H2
  go_wp2_with fail
  refine HS.out.mono ?_
  clear HS
  rintro e w3 ⟨rfl, ⟨c3, hc3, hc3s⟩, hg3⟩
  have HM3 : Hid (Mk lo hi w w3) := HM2.out.trans (Mk.of_grown hg3 hl2 hh2 HC2.out hc3 hc3s)
  clear hg3 hc3 hc3s q1
  go_wp2_with fail
  go_ret
  exact ⟨_, rfl, by omega, by omega, HM3.out⟩

end Go.Proofs.Ytjpclpjhigongaa

/-
  The laws' marks on an object whose lists are the call's own; texts of the call's own.
-/
import Derived.Test.YtdjpihbhnncahaaMarkK
import Derived.Test.YtdjpihbhnncahaaSzS
import Derived.Test.YtdjpihbhnncahaaToS
namespace Go.Proofs.Ytdjpihbhnncahaa
open Go.RowKit

theorem vals_has {W : World} {x : Nat} {K : List ByteArray} (h : Has W x 9 (K.map Value.string).toArray) : Vals W W.heap.size (some ⟨x, 0, none⟩) (K.map Value.string) := fun _ =>
  ⟨x, 0, rfl, h.lt, fun i u hi => by rw [Nat.zero_add, h.cell, List.getElem?_toArray]; exact hi⟩
theorem texts_has {K : List ByteArray} {n : Nat} (hn : n = K.length) : TextsL (K.map Value.string).toArray n :=
  ⟨by simp [hn], fun j hj => ⟨K[j]'(by omega), by rw [List.getElem?_toArray, List.getElem?_map, List.getElem?_eq_getElem (by omega)]; rfl⟩⟩
set_option maxRecDepth 100000 in
set_option maxHeartbeats 2000000 in
theorem markObject_mkB (w : World) (lo hi g1 g2 n m d1 d2 : Nat) (l : List Sp) (cs cm : Array Value) (k : Int) (hn : n = l.length) (h : Has w g1 66 cs) (hx : KeptX cs n l) (hl : lo ≤ g1) (hh : g1 < hi) (hf : ∀ y ∈ l, Far g1 w y) (hbd : ∀ y ∈ l, ∀ b, (y.a1 = some ⟨b, 0, none⟩ ∨ y.a2 = some ⟨b, 0, none⟩) → b < hi) (hs : ∀ y ∈ l, y.s.short)
    (h2 : Has w g2 59 cm) (hm : cm.size = m * 4) (hl2 : lo ≤ g2) (hh2 : g2 < hi) (hn1 : n ≤ 1048576) (hm1 : m ≤ 1048576) (hk : 0 ≤ k) (hb : k ≤ 1048576) (hhi : hi ≤ w.heap.size) :
    Calls Try.prog 26 #[.agg #[.slice (some ⟨g1, 0, none⟩) n d1, .slice (some ⟨g2, 0, none⟩) m d2], .int .i64 k] w fun e w' => ∃ r : Int, e = .returned (.int .i64 r) ∧ 0 ≤ r ∧ r ≤ k + 8388608 * n + 4 * m ∧ Mk lo hi w w' := by
  have hbA : Below w.heap.size w (w.alloc (.cells #[.slice (some ⟨g1, 0, none⟩) n d1, .slice (some ⟨g2, 0, none⟩) m d2] 26)) := (Below.refl _ _).alloc (Nat.le_refl _) _
  have hsz : (w.alloc (.cells #[.slice (some ⟨g1, 0, none⟩) n d1, .slice (some ⟨g2, 0, none⟩) m d2] 26)).heap.size = w.heap.size + 1 := by simp
  have HBX : Hid (Has (w.alloc (.cells #[.slice (some ⟨g1, 0, none⟩) n d1, .slice (some ⟨g2, 0, none⟩) m d2] 26)) w.heap.size 26 #[.slice (some ⟨g1, 0, none⟩) n d1, .slice (some ⟨g2, 0, none⟩) m d2]) := Has.new _ _ _
  have H1 := hidden (markSectionS_mk (w.alloc (.cells #[.slice (some ⟨g1, 0, none⟩) n d1, .slice (some ⟨g2, 0, none⟩) m d2] 26)) lo hi g1 n d1 l cs k hn (h.alloc _) hx hl hh (fun y hy => (hf y hy).below hbA) hbd hs hn1 hk hb)
  have HM0 : Hid (Mk lo hi w (w.alloc (.cells #[.slice (some ⟨g1, 0, none⟩) n d1, .slice (some ⟨g2, 0, none⟩) m d2] 26))) := Mk.of_below hbA
  have H2 := hidden (h2.alloc (.cells #[.slice (some ⟨g1, 0, none⟩) n d1, .slice (some ⟨g2, 0, none⟩) m d2] 26))
  have HSZ := hidden hsz
  clear hn h hx hf hbd hs h2 hbA hsz
  go_enter Try.func26, Try.ntmps26
  go_wp2_with fail
  refine H1.out.mono ?_
  clear H1
  rintro e w2 ⟨r, rfl, r0, r1, hm2⟩
  have q1 : w2.cell? ⟨w.heap.size, 1, none⟩ = some (.slice (some ⟨g2, 0, none⟩) m d2) := (hm2.cell (by show w.heap.size < _; rw [HSZ.out]; omega) (.inr (by show hi ≤ w.heap.size; exact hhi))).trans (HBX.out.cell 1)
  obtain ⟨c2, hc2, hc2s⟩ := hm2.shape g2 _ cm H2.out
  have HS := hidden (markSymbolS_form w2 g2 m d2 c2 r hc2 (by rw [hc2s, hm]) (by omega) (by omega))
  have HC2 := hidden hc2
  have HM2 : Hid (Mk lo hi w w2) := HM0.out.trans hm2
  clear hm2 hc2 hc2s HM0 H2
  go_wp2_with fail
  refine HS.out.mono ?_
  clear HS
  rintro e w3 ⟨rfl, ⟨c3, hc3, hc3s⟩, hg3⟩
  have HM3 : Hid (Mk lo hi w w3) := HM2.out.trans (Mk.of_grown hg3 hl2 hh2 HC2.out hc3 hc3s)
  clear hg3 hc3 hc3s q1
  go_wp2_with fail
  go_ret
  exact ⟨_, rfl, by omega, by omega, HM3.out⟩

end Go.Proofs.Ytdjpihbhnncahaa

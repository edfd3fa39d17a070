/-
  The walk of FnExactHideNames.
-/
import Derived.Test.YtlkhfgfficehcaaMarkK
import Derived.Test.YtlkhfgfficehcaaHid
import Derived.Test.YtlkhfgfficehcaaSzS
import Derived.Test.YtlkhfgfficehcaaToS
import Derived.Test.YtlkhfgfficehcaaOpenT
import Derived.Deep.RegionWith
namespace Go.Proofs.Ytlkhfgfficehcaa
open Go.RowKit

theorem vals_has {W : World} {x : Nat} {K : List ByteArray} (h : Has W x 9 (K.map Value.string).toArray) : Vals W W.heap.size (some ⟨x, 0, none⟩) (K.map Value.string) := fun _ =>
  ⟨x, 0, rfl, h.lt, fun i u hi => by rw [Nat.zero_add, h.cell, List.getElem?_toArray]; exact hi⟩
theorem texts_has {K : List ByteArray} {n : Nat} (hn : n = K.length) : TextsL (K.map Value.string).toArray n :=
  ⟨by simp [hn], fun j hj => ⟨K[j]'(by omega), by rw [List.getElem?_toArray, List.getElem?_map, List.getElem?_eq_getElem (by omega)]; rfl⟩⟩
theorem hide_few (K : List ByteArray) (ss : List Sx) (ms : List Sm) (h : ∀ s ∈ ss, s.lens) : FewA (hideA K ss ms) (hideA K ss ms).1.length (hideA K ss ms).2.length := by
  unfold hideA
  split
  · rename_i hok
    obtain ⟨h1, h2, h3⟩ := objOk_parts hok
    exact ⟨h1, by simpa using h2, fun s hs => ⟨h s hs, (h3 s hs).1, (h3 s hs).2.1⟩⟩
  · exact ⟨by simp, by simp, by simp⟩
set_option maxRecDepth 100000 in
set_option maxHeartbeats 2000000 in
theorem markObject_mkB (w : World) (lo hi g1 g2 n m d1 d2 : Nat) (l : List Sp) (cs cm : Array Value) (k : Int) (hn : n = l.length) (h : Has w g1 59 cs) (hx : KeptX cs n l) (hl : lo ≤ g1) (hh : g1 < hi) (hf : ∀ y ∈ l, Far g1 w y) (hbd : ∀ y ∈ l, ∀ b, (y.a1 = some ⟨b, 0, none⟩ ∨ y.a2 = some ⟨b, 0, none⟩) → b < hi) (hs : ∀ y ∈ l, y.s.short)
    (h2 : Has w g2 54 cm) (hm : cm.size = m * 4) (hl2 : lo ≤ g2) (hh2 : g2 < hi) (hn1 : n ≤ 1048576) (hm1 : m ≤ 1048576) (hk : 0 ≤ k) (hb : k ≤ 1048576) (hhi : hi ≤ w.heap.size) :
    Calls Try.prog 20 #[.agg #[.slice (some ⟨g1, 0, none⟩) n d1, .slice (some ⟨g2, 0, none⟩) m d2], .int .i64 k] w fun e w' => ∃ r : Int, e = .returned (.int .i64 r) ∧ 0 ≤ r ∧ r ≤ k + 8388608 * n + 4 * m ∧ Mk lo hi w w' := by
  have hbA : Below w.heap.size w (w.alloc (.cells #[.slice (some ⟨g1, 0, none⟩) n d1, .slice (some ⟨g2, 0, none⟩) m d2] 26)) := (Below.refl _ _).alloc (Nat.le_refl _) _
  have hsz : (w.alloc (.cells #[.slice (some ⟨g1, 0, none⟩) n d1, .slice (some ⟨g2, 0, none⟩) m d2] 26)).heap.size = w.heap.size + 1 := by simp
  have HBX : Hid (Has (w.alloc (.cells #[.slice (some ⟨g1, 0, none⟩) n d1, .slice (some ⟨g2, 0, none⟩) m d2] 26)) w.heap.size 26 #[.slice (some ⟨g1, 0, none⟩) n d1, .slice (some ⟨g2, 0, none⟩) m d2]) := Has.new _ _ _
  have H1 := hidden (markSectionS_mk (w.alloc (.cells #[.slice (some ⟨g1, 0, none⟩) n d1, .slice (some ⟨g2, 0, none⟩) m d2] 26)) lo hi g1 n d1 l cs k hn (h.alloc _) hx hl hh (fun y hy => (hf y hy).below hbA) hbd hs hn1 hk hb)
  have HM0 : Hid (Mk lo hi w (w.alloc (.cells #[.slice (some ⟨g1, 0, none⟩) n d1, .slice (some ⟨g2, 0, none⟩) m d2] 26))) := Mk.of_below hbA
  have H2 := hidden (h2.alloc (.cells #[.slice (some ⟨g1, 0, none⟩) n d1, .slice (some ⟨g2, 0, none⟩) m d2] 26))
  have HSZ := hidden hsz
  clear hn h hx hf hbd hs h2 hbA hsz
  go_enter Try.func20, Try.ntmps20
  go_wp2_with fail
  refine H1.out.mono ?_
  clear H1
  rintro e w2 ⟨r, rfl, r0, r1, hm2⟩
  have q1 : w2.cell? ⟨w.heap.size, 1, none⟩ = some (.slice (some ⟨g2, 0, none⟩) m d2) := (hm2.cell (by show w.heap.size < _; rw [HSZ.out]; omega) (.inr (by show hi ≤ w.heap.size; exact hhi))).trans (HBX.out.cell 1)
  obtain ⟨c2, hc2, hc2s⟩ := hm2.shape g2 _ cm H2.out
  have HS := hidden (markSymbolS_form w2 g2 m d2 c2 r hc2 (by rw [hc2s, hm]) (by omega) (by omega))
  have HC2 := hidden hc2
  have HM2 : Hid (Mk lo hi w w2) := HM0.out.trans hm2
  clear hm2 hc2 hc2s HM0 H2
  go_wp2_with fail
  refine HS.out.mono ?_
  clear HS
  rintro e w3 ⟨rfl, ⟨c3, hc3, hc3s⟩, hg3⟩
  have HM3 : Hid (Mk lo hi w w3) := HM2.out.trans (Mk.of_grown hg3 hl2 hh2 HC2.out hc3 hc3s)
  clear hg3 hc3 hc3s q1
  go_wp2_with fail
  go_ret
  exact ⟨_, rfl, by omega, by omega, HM3.out⟩
set_option maxRecDepth 100000 in
set_option maxHeartbeats 8000000 in
theorem law_ExactHideNames (w : World) (a1 a2 : Option Addr) (c1 c2 n m : Nat) (l : List Sp) (ms : List Sm) (hn : n = l.length) (hm : m = ms.length) (h1 : Sects w w.heap.size a1 l) (h2 : Syms w w.heap.size a2 ms) (hlen : n ≤ 9223372036854775807) (hlem : m ≤ 9223372036854775807)
    (hl : ∀ y ∈ l, y.s.fits) (hs : ∀ x ∈ ms, x.fits) (K : List ByteArray) (ka : Option Addr) (nk kc : Nat) (hkn : nk = K.length) (hkv : Vals w w.heap.size ka (K.map Value.string)) (hkm : nk ≤ 9223372036854775807) (hks : ∀ s ∈ K, s.size ≤ maxLen) :
    Calls Try.prog 6 #[.agg #[.slice a1 n c1, .slice a2 m c2], .slice ka nk kc] w fun e w' => e = .returned (.bool true) ∧ Below w.heap.size w w' := by
  have HSZ := hidden (fun (W : World) (hB : Below w.heap.size w W) => szObject_any W w.heap.size a1 a2 c1 c2 n m l ms hn hm (h1.below hB) (h2.below hB) hB.size hlen hlem (fun y hy => (hl y hy).lens) (fun x hx => (hs x hx).name) 1048576 (by omega) (by omega))
  have HTO := hidden (fun (W : World) (hB : Below w.heap.size w W) (k1 : n ≤ 1048576) (k2 : m ≤ 1048576) (k3 : ∀ y ∈ l, y.s.short) => toObject_any W w.heap.size a1 a2 c1 c2 n m l ms hn hm (h1.below hB) (h2.below hB) hB.size k1 k2 k3)
  have HZK := hidden (fun (W : World) (hB : Below w.heap.size w W) (left : Int) (h0 : 0 ≤ left) (h1 : left ≤ 1048576) => szStringS_any W w.heap.size ka kc nk K hkn (hkv.below hB) hkm hks left h0 h1)
  have HTS := hidden (fun (W : World) (hB : Below w.heap.size w W) (k1 : nk ≤ 1048576) => toStringS_any W w.heap.size ka kc nk K hkn (hkv.below hB) hB.size k1)
  have HKN := hidden hkn
  obtain ⟨A, hA⟩ : ∃ A, hideA K (l.map Sp.s) ms = A := ⟨_, rfl⟩
  have HFW := hidden (hide_few K (l.map Sp.s) ms (fun s hs => by obtain ⟨y, hy, rfl⟩ := List.mem_map.1 hs; exact (hl y hy).lens))
  rw [hA] at HFW
  obtain ⟨N, hN⟩ : ∃ q, A.1.length = q := ⟨_, rfl⟩
  obtain ⟨M, hM⟩ : ∃ q, A.2.length = q := ⟨_, rfl⟩
  have HNE := hidden hN
  have HME := hidden hM
  rw [hN, hM] at HFW
  have HSP : Hid (∀ (W : World) (l' : List Sp) (g1 g2 : Nat), l'.map Sp.s = l.map Sp.s → Sects W W.heap.size (some ⟨g1, 0, none⟩) l' → Syms W W.heap.size (some ⟨g2, 0, none⟩) ms → n ≤ 1048576 → m ≤ 1048576 → (∀ y ∈ l, y.s.short) → nk ≤ 1048576 → ∀ kb, Has W kb 9 (K.map Value.string).toArray →
      Calls Try.prog 10 #[.agg #[.slice (some ⟨g1, 0, none⟩) n n, .slice (some ⟨g2, 0, none⟩) m m], .slice (some ⟨kb, 0, none⟩) nk nk] W (AnsN W A N M)) := fun W l' g1 g2 he k1 k2 q1 q2 q3 q4 kb hkb => by
    have := hideNames'_any W W.heap.size (some ⟨g1, 0, none⟩) (some ⟨g2, 0, none⟩) n m n m l' ms (by rw [length_same he, ← hn]) hm k1 k2 (Nat.le_refl _) hlen hlem (fun y hy => (fits_same he hl y hy).lens) (fun x hx => (hs x hx).name) (fun y hy => (short_same he q3 y hy).1) K (some ⟨kb, 0, none⟩) nk nk (vals_has hkb) hkn.symm q4
    rw [he, hA] at this
    exact this.mono fun e w' h => h.parts hN hM
  have HIM : Hid (∀ (W : World) (l' : List Sp) (g1 g2 : Nat), l'.map Sp.s = l.map Sp.s → Sects W W.heap.size (some ⟨g1, 0, none⟩) l' → Syms W W.heap.size (some ⟨g2, 0, none⟩) ms → (∀ y ∈ l, y.s.short) → nk ≤ 1048576 → ∀ kb, Has W kb 9 (K.map Value.string).toArray →
      Calls Try.prog 8 #[.agg #[.slice (some ⟨g1, 0, none⟩) n n, .slice (some ⟨g2, 0, none⟩) m m], .slice (some ⟨kb, 0, none⟩) nk nk] W (AnsN W A N M)) := fun W l' g1 g2 he k1 k2 q3 q4 kb hkb => by
    have := hideNames_any W W.heap.size (some ⟨g1, 0, none⟩) (some ⟨g2, 0, none⟩) n m n m l' ms (by rw [length_same he, ← hn]) hm k1 k2 (Nat.le_refl _) hlen hlem (fits_same he hl) hs (fun y hy => (short_same he q3 y hy).1) K (some ⟨kb, 0, none⟩) nk nk (vals_has hkb) hkn.symm q4
    rw [he, hA] at this
    exact this.mono fun e w' h => h.parts hN hM
  have HEX : Hid (∀ (W : World) (B1 : Nat) (l1 l2 : List Sp) (g1 g2 h1 h2 : Nat), l1.map Sp.s = l.map Sp.s → l2.map Sp.s = l.map Sp.s → B1 ≤ W.heap.size → Sects W B1 (some ⟨g1, 0, none⟩) l1 → Syms W B1 (some ⟨g2, 0, none⟩) ms → Sects W W.heap.size (some ⟨h1, 0, none⟩) l2 → Syms W W.heap.size (some ⟨h2, 0, none⟩) ms →
      Calls Try.prog 19 #[.agg #[.slice (some ⟨g1, 0, none⟩) n n, .slice (some ⟨g2, 0, none⟩) m m], .agg #[.slice (some ⟨h1, 0, none⟩) n n, .slice (some ⟨h2, 0, none⟩) m m]] W fun e w' => e = .returned (.bool true) ∧ Below W.heap.size W w') := fun W B1 l1 l2 g1 g2 h1 h2 e1 e2 hB k1 k2 k3 k4 =>
    eqObject_yes W B1 W.heap.size (some ⟨g1, 0, none⟩) (some ⟨g2, 0, none⟩) (some ⟨h1, 0, none⟩) (some ⟨h2, 0, none⟩) n m n m n m l1 l2 ms (e1.trans e2.symm) (by rw [length_same e1, ← hn]) hm k1 k2 k3 k4 hB (Nat.le_refl _) hlen hlem (fun y hy => (fits_same e1 hl y hy).lens)
  have HLN := hidden hn
  have HLM := hidden hm
  unfold TookO at HTO
  unfold SizedO at HSZ
  clear h1 h2 hl hs hn hm hA hN hM hkn hkv hks
  go_enter Try.func6, Try.ntmps6
  have hb0 : Below w.heap.size w (w.alloc (.cells #[.slice a1 n c1, .slice a2 m c2] 39)) := (Below.refl _ _).alloc (Nat.le_refl _) _
  have hx0 : Has (w.alloc (.cells #[.slice a1 n c1, .slice a2 m c2] 39)) w.heap.size 39 #[.slice a1 n c1, .slice a2 m c2] := Has.new _ _ _
  go_wp2_with fail
  refine (HSZ.out _ hb0).mono ?_
  clear HSZ
  rintro e w1 ⟨r, rfl, hb1, hr0, hr1, hr2⟩
  have hx1 := hx0.below hb1 hx0.lt
  have hB1 := hb0.trans (hb1.mono hb0.size)
  by_cases hneg : r < 0
  · clear hr2 hx0 hx1
    go_wp2_with fail
    go_ret
    exact ⟨rfl, hB1⟩
  obtain ⟨⟨q1, q2⟩, q3, _⟩ := hr2 (by omega)
  have hl1 : n ≤ 1048576 := by rw [HLN.out]; exact q1
  have hl2 : m ≤ 1048576 := by rw [HLM.out]; exact q3
  have HSH := hidden q2
  have x0 : World.cell? w1 ⟨w.heap.size, 0, none⟩ = some (.slice a1 n c1) := hx1.cell 0
  have x1 : World.cell? w1 ⟨w.heap.size, 1, none⟩ = some (.slice a2 m c2) := hx1.cell 1
  clear hr2 hx0 hb0 hb1 q1 q2 q3
  have HX1 := hidden hx1
  clear hx1
  go_wp2_with fail
  refine (HZK.out w1 hB1 r (by omega) hr1).mono ?_
  clear HZK
  rintro e _ ⟨r2, rfl, rfl, g1, g2, g3⟩
  by_cases hneg2 : r2 < 0
  · clear g3
    go_wp2_with fail
    go_ret
    exact ⟨rfl, hB1⟩
  have hl3 : nk ≤ 1048576 := by have := (g3 (by omega)).1; rw [HKN.out]; omega
  clear g3
  -- the model's answer
  go_wp2_with fail
  refine (HTO.out w1 hB1 hl1 hl2 HSH.out).mono ?_
  rintro e w2 ⟨l2, f1, f2, he2, rfl, hi2, hf2, hb2, -, -, -⟩
  have hB2 := hB1.trans (hb2.mono hB1.size)
  have hx2 := HX1.out.below hb2 HX1.out.lt
  have HI2 := hidden hi2
  have HF2 := hidden hf2
  clear x0 x1 hi2 hf2 hb2 hB1 HX1
  go_wp2_with fail
  refine (HTS.out w2 hB2 hl3).mono ?_
  rintro e w2b ⟨rfl, hkb, hb2b⟩
  obtain ⟨kb, hkbe⟩ : ∃ q, w2.heap.size = q := ⟨_, rfl⟩
  have HS2 := hidden (HSP.out w2b l2 f1 f2 he2 ((HI2.out.below hb2b).more hb2b.size) ((HF2.out.below hb2b).more hb2b.size) hl1 hl2 HSH.out hl3 _ hkb)
  have hB2 := hB2.trans (hb2b.mono hB2.size)
  have hx2 := hx2.below hb2b hx2.lt
  rw [hkbe] at HS2 ⊢
  clear hkb hb2b hkbe HI2 HF2 HSP he2
  go_wp2_with fail
  refine HS2.out.mono ?_
  clear HS2
  rintro e w3 ⟨LW, e1, e2, g1, g2, rfl, hLW, hOW, hb3⟩
  have hB3 := hB2.trans (hb3.mono hB2.size)
  have hx3 := hx2.below hb3 hx2.lt
  have hb3a : Below w3.heap.size w3 (w3.alloc (.cells #[.slice e1 N g1, .slice e2 M g2] 26)) := (Below.refl _ _).alloc (Nat.le_refl _) _
  have hx4 : Has (w3.alloc (.cells #[.slice e1 N g1, .slice e2 M g2] 26)) w3.heap.size 26 #[.slice e1 N g1, .slice e2 M g2] := Has.new _ _ _
  have hs3 : (w3.alloc (.cells #[.slice e1 N g1, .slice e2 M g2] 26)).heap.size = w3.heap.size + 1 := by simp
  obtain ⟨W3, hW3⟩ : ∃ q, w3.alloc (.cells #[.slice e1 N g1, .slice e2 M g2] 26) = q := ⟨_, rfl⟩
  obtain ⟨q4, hq4⟩ : ∃ q, w3.heap.size = q := ⟨_, rfl⟩
  rw [hW3, hq4] at hx4
  rw [hW3] at hb3a
  rw [hW3, hq4] at hs3
  have HLW := hidden hLW
  -- what stays of the time up to the model's answer
  have HBX : Hid (∀ W, Below w3.heap.size w3 W → Below w.heap.size w W ∧ Has W w.heap.size 39 #[.slice a1 n c1, .slice a2 m c2]) := fun W hW => ⟨hB3.trans (hW.mono hB3.size), hx3.below hW hx3.lt⟩
  have HEQ : Hid (∀ (W : World) (L' : List Sp) (p1 p2 : Option Addr) (d1 d2 lo' : Nat), L'.map Sp.s = A.1 → OwnR W lo' p1 p2 N M d1 d2 L' A.2 → Below w3.heap.size w3 W → Calls Try.prog 19 #[.agg #[.slice p1 N d1, .slice p2 M d2], .agg #[.slice e1 N g1, .slice e2 M g2]] W fun e w' => e = .returned (.bool true) ∧ Below W.heap.size W w') := fun W L' p1 p2 d1 d2 lo' he hg hb => by
    obtain ⟨hf8, hf12, hfs⟩ := HFW.out
    exact eqObject_yes W W.heap.size w3.heap.size p1 p2 e1 e2 d1 d2 g1 g2 N M L' LW A.2 (he.trans HLW.out.symm) hg.len.symm HME.out.symm hg.sects hg.syms' (hOW.sects.below hb) (hOW.syms'.below hb) (Nat.le_refl _) hb.size (by omega) (by omega) (fun y hy => by
      have hym : y.s ∈ A.1 := by rw [← he]; exact List.mem_map_of_mem hy
      exact (hfs y.s hym).1)
  have HB3A := hidden hb3a
  have HX4 := hidden hx4
  have HW3 := hidden hW3
  have HQ4 := hidden hq4
  have HS3 := hidden hs3
  obtain ⟨hbw3, hbox3⟩ := HBX.out W3 hb3a
  have x0 : W3.cell? ⟨w.heap.size, 0, none⟩ = some (.slice a1 n c1) := hbox3.cell 0
  have x1 : W3.cell? ⟨w.heap.size, 1, none⟩ = some (.slice a2 m c2) := hbox3.cell 1
  have HT3 := hidden (HTO.out W3 hbw3 hl1 hl2 HSH.out)
  clear hx2 hB2 hB3 hx3 hb3 hOW hLW hx4 hb3a hW3 hq4 hs3 hbw3 hbox3
  go_upto_region 9 with fail
  rw [HW3.out, HQ4.out]
  clear HW3
  -- the program's argument
  go_wp2_with fail
  refine HT3.out.mono ?_
  clear HT3
  rintro e w4 ⟨l4, k1, k2, he4, rfl, hi4, hf4, hb4, hlk1, hlk2, hfar4, ⟨cs4, hcs4, hfx4⟩, ⟨cm4, hcm4, hcm4s⟩⟩
  have hB4 := HB3A.out.trans (hb4.mono HB3A.out.size)
  have hx4 := HX4.out.below hb4 HX4.out.lt
  have hX5 : Has (w4.alloc (.cells #[.slice (some ⟨k1, 0, none⟩) n n, .slice (some ⟨k2, 0, none⟩) m m] 26)) w4.heap.size 26 #[.slice (some ⟨k1, 0, none⟩) n n, .slice (some ⟨k2, 0, none⟩) m m] := Has.new _ _ _
  have hbA : Below w4.heap.size w4 (w4.alloc (.cells #[.slice (some ⟨k1, 0, none⟩) n n, .slice (some ⟨k2, 0, none⟩) m m] 26)) := (Below.refl _ _).alloc (Nat.le_refl _) _
  have s4 : (w4.alloc (.cells #[.slice (some ⟨k1, 0, none⟩) n n, .slice (some ⟨k2, 0, none⟩) m m] 26)).heap.size = w4.heap.size + 1 := by simp
  have hi4a : Sects (w4.alloc (.cells #[.slice (some ⟨k1, 0, none⟩) n n, .slice (some ⟨k2, 0, none⟩) m m] 26)) (w4.alloc (.cells #[.slice (some ⟨k1, 0, none⟩) n n, .slice (some ⟨k2, 0, none⟩) m m] 26)).heap.size (some ⟨k1, 0, none⟩) l4 := (hi4.alloc (Nat.le_refl _) _).more (by simp)
  have hf4a : Syms (w4.alloc (.cells #[.slice (some ⟨k1, 0, none⟩) n n, .slice (some ⟨k2, 0, none⟩) m m] 26)) (w4.alloc (.cells #[.slice (some ⟨k1, 0, none⟩) n n, .slice (some ⟨k2, 0, none⟩) m m] 26)).heap.size (some ⟨k2, 0, none⟩) ms := (hf4.alloc (Nat.le_refl _) _).more (by simp)
  obtain ⟨W4, hW4⟩ : ∃ q, w4.alloc (.cells #[.slice (some ⟨k1, 0, none⟩) n n, .slice (some ⟨k2, 0, none⟩) m m] 26) = q := ⟨_, rfl⟩
  obtain ⟨q5, hq5⟩ : ∃ q, w4.heap.size = q := ⟨_, rfl⟩
  rw [hW4] at hi4a hf4a hbA
  rw [hW4, hq5] at s4 hX5
  have HE4 := hidden he4
  have HBT4 := hidden (HTS.out W4 (HBX.out W4 (hB4.trans (hbA.mono hB4.size))).1 hl3)
  have HB4 := hidden (hB4.trans (hbA.mono hB4.size))
  have HX4a := hidden (hx4.below hbA hx4.lt)
  have HX5 := hidden hX5
  have HAA := hidden hbA
  have HFAR := hidden hfar4
  have HCS := hidden hcs4
  have HFX := hidden hfx4
  have HCM := hidden hcm4
  have HCMS := hidden hcm4s
  have HIX := hidden hi4a
  have HFXS := hidden hf4a
  have HLK := hidden (And.intro hlk1 hlk2)
  have HW4 := hidden hW4
  have HQ5 := hidden hq5
  have S4 := hidden s4
  have HSW4 : Hid (W3.heap.size ≤ w4.heap.size) := hb4.size
  have y0 : W4.cell? ⟨q5, 0, none⟩ = some (.slice (some ⟨k1, 0, none⟩) n n) := hX5.cell 0
  have y1 : W4.cell? ⟨q5, 1, none⟩ = some (.slice (some ⟨k2, 0, none⟩) m m) := hX5.cell 1
  clear x0 x1 hi4 hf4 hb4 hx4 he4 hi4a hf4a hX5 hB4 s4 hfar4 hcs4 hfx4 hcm4 hcm4s hbA hW4 hq5 hlk1 hlk2 HX4 HB3A
  go_upto_region 10 with fail
  rw [HW4.out, HQ5.out]
  clear HW4 y0 y1
  go_wp2_with fail
  refine HBT4.out.mono ?_
  clear HBT4
  rintro e V4 ⟨rfl, hkb, hbV⟩
  obtain ⟨kb, hkbe⟩ : ∃ q, W4.heap.size = q := ⟨_, rfl⟩
  rw [hkbe] at hkb ⊢
  have HKB : Hid (W4.heap.size = kb) := hkbe
  have HVS : Hid (W4.heap.size ≤ V4.heap.size) := hbV.size
  have HB4 := hidden (HB4.out.trans (hbV.mono HB4.out.size))
  have HX4a := hidden (HX4a.out.below hbV HX4a.out.lt)
  have HX5 := hidden (HX5.out.below hbV HX5.out.lt)
  have HAA := hidden (HAA.out.trans (hbV.mono HAA.out.size))
  have HIX := hidden ((HIX.out.below hbV).more hbV.size)
  have HFXS := hidden ((HFXS.out.below hbV).more hbV.size)
  have HI4 := hidden (HIM.out V4 l4 k1 k2 HE4.out HIX.out HFXS.out HSH.out hl3 kb hkb)
  have HKH := hidden hkb
  have hHKlt : kb < V4.heap.size := hkb.lt
  have y0 : V4.cell? ⟨q5, 0, none⟩ = some (.slice (some ⟨k1, 0, none⟩) n n) := HX5.out.cell 0
  have y1 : V4.cell? ⟨q5, 1, none⟩ = some (.slice (some ⟨k2, 0, none⟩) m m) := HX5.out.cell 1
  clear hkb hbV hkbe
  go_wp2_with fail
  refine HI4.out.mono ?_
  clear HI4 y0 y1
  rintro e w5 ⟨L, p1, p2, d1, d2, rfl, hL, hO, hb5⟩
  have hX6 : Has (w5.alloc (.cells #[.slice p1 N d1, .slice p2 M d2] 26)) w5.heap.size 26 #[.slice p1 N d1, .slice p2 M d2] := Has.new _ _ _
  have hb5a : Below w5.heap.size w5 (w5.alloc (.cells #[.slice p1 N d1, .slice p2 M d2] 26)) := (Below.refl _ _).alloc (Nat.le_refl _) _
  obtain ⟨W5, hW5⟩ : ∃ q, w5.alloc (.cells #[.slice p1 N d1, .slice p2 M d2] 26) = q := ⟨_, rfl⟩
  obtain ⟨q6, hq6⟩ : ∃ q, w5.heap.size = q := ⟨_, rfl⟩
  have hq6l : V4.heap.size ≤ q6 := by rw [← hq6]; exact hb5.size
  rw [hW5] at hb5a
  rw [hW5, hq6] at hX6
  have hbb : Below V4.heap.size V4 W5 := hb5.trans (hb5a.mono hb5.size)
  have HO5 := hidden (hO.below hb5a)
  have HX65 := hidden hX6
  have HX45 := hidden (HX4a.out.below hbb HX4a.out.lt)
  have HX55 := hidden (HX5.out.below hbb HX5.out.lt)
  have HK5 := hidden (HKH.out.below hbb HKH.out.lt)
  have HB5 := hidden (HB4.out.trans (hbb.mono HB4.out.size))
  have HA5 := hidden (HAA.out.trans (hbb.mono HAA.out.size))
  have HI5 := hidden (HIX.out.below hbb)
  have HF5 := hidden (HFXS.out.below hbb)
  have HS5 : Hid (V4.heap.size ≤ W5.heap.size) := hbb.size
  have HL := hidden hL
  have HQ6 := hidden hq6l
  have HE1 := hidden (HEQ.out W5 L p1 p2 d1 d2 V4.heap.size hL HO5.out HB5.out)
  have HWB := hidden hW5
  have HQ66 := hidden hq6
  clear hX6 hb5a hbb hO hb5 hL hW5 hq6 HX4a HX5 HB4 HAA HIX HFXS hq6l HKH
  go_upto_region 12 with fail
  rw [HWB.out, HQ66.out]
  clear HWB HQ66
  have t0 : W5.cell? ⟨q6, 0, none⟩ = some (.slice p1 N d1) := HX65.out.cell 0
  have t1 : W5.cell? ⟨q6, 1, none⟩ = some (.slice p2 M d2) := HX65.out.cell 1
  have u0 : W5.cell? ⟨q4, 0, none⟩ = some (.slice e1 N g1) := HX45.out.cell 0
  have u1 : W5.cell? ⟨q4, 1, none⟩ = some (.slice e2 M g2) := HX45.out.cell 1
  go_wp2_with fail
  refine HE1.out.mono ?_
  clear HE1 t0 t1 u0 u1
  rintro e w6 ⟨rfl, hb6⟩
  have HO6 := hidden (HO5.out.below hb6)
  have HX66 := hidden (HX65.out.below hb6 HX65.out.lt)
  have HX46 := hidden (HX45.out.below hb6 HX45.out.lt)
  have HX56 := hidden (HX55.out.below hb6 HX55.out.lt)
  have HK6 := hidden (HK5.out.below hb6 HK5.out.lt)
  have HB6 := hidden (HB5.out.trans (hb6.mono HB5.out.size))
  have HA6 := hidden (HA5.out.trans (hb6.mono HA5.out.size))
  have HI6 := hidden (HI5.out.below (hb6.mono HS5.out))
  have HF6 := hidden (HF5.out.below (hb6.mono HS5.out))
  have HS6 : Hid (V4.heap.size ≤ w6.heap.size) := Nat.le_trans HS5.out hb6.size
  clear hb6 HK5 HO5 HX65 HX45 HX55 HB5 HA5 HI5 HF5 HS5
  have x0 : World.cell? w6 ⟨w.heap.size, 0, none⟩ = some (.slice a1 n c1) := (HBX.out w6 HB6.out).2.cell 0
  have x1 : World.cell? w6 ⟨w.heap.size, 1, none⟩ = some (.slice a2 m c2) := (HBX.out w6 HB6.out).2.cell 1
  have y0 : World.cell? w6 ⟨q5, 0, none⟩ = some (.slice (some ⟨k1, 0, none⟩) n n) := HX56.out.cell 0
  have y1 : World.cell? w6 ⟨q5, 1, none⟩ = some (.slice (some ⟨k2, 0, none⟩) m m) := HX56.out.cell 1
  have hB6d : Below w.heap.size w w6.drew := (HBX.out w6 HB6.out).1.drew
  have HTD := hidden (HTO.out w6.drew hB6d hl1 hl2 HSH.out)
  have HYD : Hid (Has w6.drew q5 26 #[.slice (some ⟨k1, 0, none⟩) n n, .slice (some ⟨k2, 0, none⟩) m m]) := HX56.out
  have HID : Hid (Sects w6.drew V4.heap.size (some ⟨k1, 0, none⟩) l4) := HI6.out.drewN 1
  have HFD : Hid (Syms w6.drew V4.heap.size (some ⟨k2, 0, none⟩) ms) := HF6.out.drewN 1
  have HSD : Hid (V4.heap.size ≤ w6.drew.heap.size) := HS6.out
  go_upto_region 14 with fail
  go_cut [44] from 40 (fun v wx => v = .bool false ∧ Hid (Below w6.heap.size w6 wx))
  case first =>
    go_region_with (first
      | (go_at_call 17; refine HTD.out.mono ?_; rintro e w7 ⟨l7, h1, h2, he7, rfl, hi7, hf7, hb7, -, -, -⟩;
         have HB7 := hidden hb7; have HI7 := hidden hi7; have HF7 := hidden hf7; have HE7 := hidden he7; have hy7 := HYD.out.below hb7 HYD.out.lt; clear hi7 hf7 hb7 he7;
         have v0 := hy7.cell 0; have v1 := hy7.cell 1;
         simp only [List.getElem?_toArray, List.getElem?_cons_zero, List.getElem?_cons_succ] at v0 v1; clear hy7)
      | (go_at_call 19; refine (HEX.out _ _ l4 l7 k1 k2 _ _ HE4.out HE7.out (Nat.le_trans HSD.out HB7.out.size) (HID.out.below (HB7.out.mono HSD.out)) (HFD.out.below (HB7.out.mono HSD.out)) HI7.out HF7.out).mono ?_; rintro e w8 ⟨rfl, hb8⟩))
    all_goals
      have hB8 : Below w6.heap.size w6 w8 := ((Below.refl _ _).drew.trans HB7.out).trans (hb8.mono HB7.out.size)
      clear hb8
      go_wp2_with fail
      go_meet
      exact ⟨rfl, hB8⟩
  case rest =>
    obtain ⟨rfl, hbc⟩ := hcut
    have HOc := hidden (HO6.out.below hbc.out)
    have HX6c := hidden (HX66.out.below hbc.out HX66.out.lt)
    have HX4c := hidden (HX46.out.below hbc.out HX46.out.lt)
    have HX5c := hidden (HX56.out.below hbc.out HX56.out.lt)
    have HBc := hidden (HB6.out.trans (hbc.out.mono HB6.out.size))
    have HAc := hidden (HA6.out.trans (hbc.out.mono HA6.out.size))
    have HKc := hidden (HK6.out.below hbc.out HK6.out.lt)
    clear HTD HYD HID HFD HSD hB6d x0 x1 y0 y1 HO6 HX66 HX46 HX56 HB6 HA6 HI6 HF6 HS6 hbc HEX HK6
    go_wp2_with fail
    refine (HTS.out wc (HBX.out wc HBc.out).1 hl3).mono ?_
    rintro e we ⟨rfl, hke, hbe⟩
    have HEK := hidden (eqStringS_yes we we.heap.size we.heap.size (some ⟨kb, 0, none⟩) (some ⟨wc.heap.size, 0, none⟩) nk nk nk K HKN.out (vals_has (HKc.out.below hbe HKc.out.lt)) (vals_has hke) (by omega))
    have HOe := hidden (HOc.out.below hbe)
    have HX6e := hidden (HX6c.out.below hbe HX6c.out.lt)
    have HX4e := hidden (HX4c.out.below hbe HX4c.out.lt)
    have HX5e := hidden (HX5c.out.below hbe HX5c.out.lt)
    have HBe := hidden (HBc.out.trans (hbe.mono HBc.out.size))
    have HAe := hidden (HAc.out.trans (hbe.mono HAc.out.size))
    have HKe := hidden (HKc.out.below hbe HKc.out.lt)
    clear hke hbe HOc HX6c HX4c HX5c HBc HAc HKc
    go_wp2_with fail
    refine HEK.out.mono ?_
    clear HEK
    rintro e _ ⟨rfl, z, rfl⟩
    obtain ⟨wf, hwf⟩ : ∃ q, we.drewN z = q := ⟨_, rfl⟩
    have hbf : Below we.heap.size we wf := by rw [← hwf]; exact below_drewN (Below.refl _ _) z
    rw [hwf]
    have HOc := hidden (HOe.out.below hbf)
    have HX6c := hidden (HX6e.out.below hbf HX6e.out.lt)
    have HX4c := hidden (HX4e.out.below hbf HX4e.out.lt)
    have HX5c := hidden (HX5e.out.below hbf HX5e.out.lt)
    have HBc := hidden (HBe.out.trans (hbf.mono HBe.out.size))
    have HAc := hidden (HAe.out.trans (hbf.mono HAe.out.size))
    have HKc := hidden (HKe.out.below hbf HKe.out.lt)
    clear hwf hbf HOe HX6e HX4e HX5e HBe HAe HKe
    have y0 : World.cell? wf ⟨q5, 0, none⟩ = some (.slice (some ⟨k1, 0, none⟩) n n) := HX5c.out.cell 0
    have y1 : World.cell? wf ⟨q5, 1, none⟩ = some (.slice (some ⟨k2, 0, none⟩) m m) := HX5c.out.cell 1
    have HMK := hidden (markObject_mkB wf W3.heap.size w4.heap.size k1 k2 n m n m l4 cs4 cm4 1 (by rw [length_same HE4.out]; exact HLN.out) (HCS.out.below HAc.out HCS.out.lt) HFX.out.keptX HLK.out.1 HCS.out.lt (fun y hy => (HFAR.out y hy).below HAc.out)
      (fun y hy b hb => by
        obtain ⟨b1, b2, ha1, ha2, _, _, _, _, ⟨cb, k1, _⟩, ⟨cf, k2, _⟩⟩ := HFAR.out y hy
        rcases hb with hb | hb
        · rw [ha1] at hb; injection hb with hb; injection hb with e1; rw [← e1]; exact k1.lt
        · rw [ha2] at hb; injection hb with hb; injection hb with e1; rw [← e1]; exact k2.lt)
      (fun y hy => by
        have hm : y.s ∈ l.map Sp.s := by rw [← HE4.out]; exact List.mem_map_of_mem hy
        obtain ⟨z, hz, e⟩ := List.mem_map.1 hm
        rw [← e]; exact HSH.out z hz)
      (HCM.out.below HAc.out HCM.out.lt) HCMS.out (Nat.le_trans HLK.out.1 (Nat.le_of_lt HLK.out.2)) HCM.out.lt hl1 hl2 (by omega) (by omega) HAc.out.size)
    go_wp2_with fail
    refine HMK.out.mono ?_
    clear HMK y0 y1
    rintro e w7 ⟨r7, rfl, r70, r71, hmk⟩
    have s3 := HS3.out
    have s4 := S4.out
    have sw := HSW4.out
    have e5 := HQ5.out
    have e4 := HQ4.out
    have hvs := HVS.out
    have HO7 := hidden (HOc.out.marked hmk (by omega))
    have HX67 := hidden (HX6c.out.mkK hmk (.inr (by have := HQ6.out; have := HVS.out; omega)))
    have HX47 := hidden (HX4c.out.mkK hmk (.inl (by omega)))
    have HB7 := hidden (hmk.belowK HBc.out (by omega) HBc.out.size)
    have hkb := HKB.out
    have HK7 := hidden (HKc.out.mkK hmk (.inr (by omega)))
    have HMS := hidden (markStringS_full w7 kb nk nk _ r7 HK7.out (texts_has HKN.out) (by omega) (by omega))
    have hkq : q5 < kb := by omega
    have hw4 : w3.heap.size ≤ kb := by omega
    have hq4k : q4 < kb := by omega
    have HKV : Hid (kb < V4.heap.size) := by show _ < _; have := hHKlt; omega
    clear HOc HX6c HX4c HX5c HBc HAc HKc hmk HFAR HCS HFX HCM HCMS s3 s4 sw e5 e4 hvs hkb
    go_wp2_with fail
    refine HMS.out.mono ?_
    clear HMS
    rintro e w8 ⟨rfl, -, hgr8⟩
    have HO8 := hidden (HO7.out.under HKV.out hgr8)
    have HX68 := hidden (HX67.out.grown hgr8 (by intro e; injection e with e; have := HQ6.out; have := HKV.out; omega))
    have HX48 := hidden (HX47.out.grown hgr8 (by intro e; injection e with e; omega))
    have HB8 := hidden (HB7.out.grown hgr8 HB7.out.size (fun q hq => by injection hq with hq; omega))
    have HE7 := hidden (HEQ.out w8 L p1 p2 d1 d2 V4.heap.size HL.out HO8.out HB8.out)
    obtain ⟨r8, hr8⟩ : ∃ q : Int, r7 + (nk : Int) = q := ⟨_, rfl⟩
    have hr80 : ¬ r8 < 0 := by omega
    have hr81 : decide (r8 < 0) = false := by simp [hr80]
    rw [hr8]
    have t0 : w8.cell? ⟨q6, 0, none⟩ = some (.slice p1 N d1) := HX68.out.cell 0
    have t1 : w8.cell? ⟨q6, 1, none⟩ = some (.slice p2 M d2) := HX68.out.cell 1
    have u0 : w8.cell? ⟨q4, 0, none⟩ = some (.slice e1 N g1) := HX48.out.cell 0
    have u1 : w8.cell? ⟨q4, 1, none⟩ = some (.slice e2 M g2) := HX48.out.cell 1
    clear HO7 HX67 HX47 HB7 HK7 hgr8 hr8 r70 r71
    go_wp2_with fail
    refine HE7.out.mono ?_
    clear HE7 t0 t1 u0 u1 hr80 hr81
    rintro e w9 ⟨rfl, hb9⟩
    have hG9 := HO8.out.below hb9
    have hXG9 := HX68.out.below hb9 HX68.out.lt
    have q0 : w9.cell? ⟨q6, 0, none⟩ = some (.slice p1 N d1) := hXG9.cell 0
    have q1 : w9.cell? ⟨q6, 1, none⟩ = some (.slice p2 M d2) := hXG9.cell 1
    have HXG9 := hidden hXG9
    have HXW9 := hidden (HX48.out.below hb9 HX48.out.lt)
    have HB9 := hidden (HB8.out.trans (hb9.mono HB8.out.size))
    have hst : (1 : Int) + (startS L L.length : Nat) + 4 * (M : Int) ≤ 4611686018427387904 := by
      have h1 := startS_few (L := L) (by rw [← List.length_map (f := Sp.s), HL.out, HNE.out]; exact HFW.out.1) (fun y hy => (HFW.out.2.2 y.s (by rw [← HL.out]; exact List.mem_map_of_mem hy)).2)
      have h2 := HFW.out.2.1
      omega
    have HNN : Hid (N = L.length) := by show _ = _; rw [← List.length_map (f := Sp.s), HL.out, HNE.out]
    have HK9 := hidden (markObject_wide w9 V4.heap.size N M d1 d2 p1 p2 L 1 HNN.out hG9.resO (by omega) hst)
    obtain ⟨R, hR⟩ : ∃ R : Int, (1 : Int) + (startS L L.length : Nat) + 4 * (M : Int) = R := ⟨_, rfl⟩
    have hR0 : 0 ≤ R := by omega
    have HH9 : Hid (∀ W, MarkedO W V4.heap.size p1 p2 L M 1 → Calls Try.prog 21 #[.agg #[.slice p1 N d1, .slice p2 M d2], .int .i64 1] W fun e w' => e = .returned (.int .i64 R) ∧ Below W.heap.size W w') := fun W hW => by
      have := heldObject_wide W V4.heap.size N M d1 d2 p1 p2 L 1 HNN.out hW (by omega) hst
      rwa [hR] at this
    rw [hR] at HK9
    have hlow : w3.heap.size ≤ V4.heap.size := by have := HS3.out; have := S4.out; have := HSW4.out; have := HQ5.out; have := HQ4.out; have := HVS.out; omega
    clear hb9 hG9 hXG9 HO8 HX68 HX48 HB8 hst hR
    go_wp2_with fail
    refine HK9.out.mono ?_
    clear HK9 q0 q1
    rintro e w10 ⟨rfl, hmk, hb10, hkp⟩
    have hXG10 := hkp _ _ _ (by decide) (by decide) (by decide) (by decide) HXG9.out
    have HXW10 := hidden (hkp _ _ _ (by decide) (by decide) (by decide) (by decide) HXW9.out)
    have HB10 := hidden (HB9.out.trans (hb10.mono hlow))
    have HK10 := hidden hmk
    have HQ10 := hidden (HH9.out w10 hmk)
    have q0 : w10.cell? ⟨q6, 0, none⟩ = some (.slice p1 N d1) := hXG10.cell 0
    have q1 : w10.cell? ⟨q6, 1, none⟩ = some (.slice p2 M d2) := hXG10.cell 1
    have HXG10 := hidden hXG10
    have hR1 : ¬ R < 0 := by omega
    clear hmk hb10 hkp hXG10 HXG9 HXW9 HB9 hlow
    go_wp2_with fail
    refine HQ10.out.mono ?_
    clear HQ10 q0 q1
    rintro e w11 ⟨rfl, hb11⟩
    have HK11 := hidden (HK10.out.below hb11)
    have HXG11 := hidden (HXG10.out.below hb11 HXG10.out.lt)
    have HXW11 := hidden (HXW10.out.below hb11 HXW10.out.lt)
    have HB11 := hidden (HB10.out.trans (hb11.mono HB10.out.size))
    obtain ⟨hbw11, hbox11⟩ := HBX.out w11 HB11.out
    have x0 : w11.cell? ⟨w.heap.size, 0, none⟩ = some (.slice a1 n c1) := hbox11.cell 0
    have x1 : w11.cell? ⟨w.heap.size, 1, none⟩ = some (.slice a2 m c2) := hbox11.cell 1
    have HT11 := hidden (HTO.out w11 hbw11 hl1 hl2 HSH.out)
    clear hb11 HK10 HXG10 HXW10 HB10 hbw11 hbox11 HTO
    go_wp2_with fail
    refine HT11.out.mono ?_
    clear HT11 x0 x1
    rintro e w12 ⟨l7, f3, f4, he7, rfl, hi7, hf7, hb12, -, -, -⟩
    have HI7 := hidden hi7
    have HF7 := hidden hf7
    have HB12t := HB11.out.trans (hb12.mono HB11.out.size)
    have HT12 := hidden (HTS.out w12 (HBX.out w12 HB12t).1 hl3)
    have HK12 := hidden (HK11.out.below hb12)
    have HXG12 := hidden (HXG11.out.below hb12 HXG11.out.lt)
    have HXW12 := hidden (HXW11.out.below hb12 HXW11.out.lt)
    have HB12 := hidden (HB11.out.trans (hb12.mono HB11.out.size))
    clear hb12 HK11 HXG11 HXW11 HB11 hi7 hf7 HB12t HTS
    go_wp2_with fail
    refine HT12.out.mono ?_
    clear HT12
    rintro e v12 ⟨rfl, hkf, hbf⟩
    obtain ⟨kf, hkfe⟩ : ∃ q, w12.heap.size = q := ⟨_, rfl⟩
    have HI12 := hidden (HIM.out v12 l7 f3 f4 he7 ((HI7.out.below hbf).more hbf.size) ((HF7.out.below hbf).more hbf.size) HSH.out hl3 _ hkf)
    have HK12 := hidden (HK12.out.below hbf)
    have HXG12 := hidden (HXG12.out.below hbf HXG12.out.lt)
    have HXW12 := hidden (HXW12.out.below hbf HXW12.out.lt)
    have HB12 := hidden (HB12.out.trans (hbf.mono HB12.out.size))
    rw [hkfe] at HI12 ⊢
    clear hbf hkf hkfe HI7 HF7 he7 HIM
    go_wp2_with fail
    refine HI12.out.mono ?_
    clear HI12
    rintro e w13 ⟨L13, v1, v2, z1, z2, rfl, hL13, ho, hb13⟩
    have hb13a : Below w13.heap.size w13 (w13.alloc (.cells #[.slice v1 N z1, .slice v2 M z2] 26)) := (Below.refl _ _).alloc (Nat.le_refl _) _
    have hX13 : Has (w13.alloc (.cells #[.slice v1 N z1, .slice v2 M z2] 26)) w13.heap.size 26 #[.slice v1 N z1, .slice v2 M z2] := Has.new _ _ _
    obtain ⟨wd, hwd⟩ : ∃ q, w13.alloc (.cells #[.slice v1 N z1, .slice v2 M z2] 26) = q := ⟨_, rfl⟩
    rw [hwd] at hb13a hX13
    have hbc : Below v12.heap.size v12 wd := hb13.trans (hb13a.mono hb13.size)
    have HKC := hidden (HK12.out.below hbc)
    have HXGC := hidden (HXG12.out.below hbc HXG12.out.lt)
    have HXWC := hidden (HXW12.out.below hbc HXW12.out.lt)
    have HBC := hidden (HB12.out.trans (hbc.mono HB12.out.size))
    have HE13 := hidden (HEQ.out wd L13 v1 v2 z1 z2 v12.heap.size hL13 (ho.below hb13a) HBC.out)
    have HWC := hidden hwd
    have HX13 := hidden hX13
    clear hb13 hb13a hX13 hwd hbc ho hL13 HK12 HXG12 HXW12 HB12
    go_upto_region 32 with fail
    rw [HWC.out]
    clear HWC
    have q0 : wd.cell? ⟨w13.heap.size, 0, none⟩ = some (.slice v1 N z1) := HX13.out.cell 0
    have q1 : wd.cell? ⟨w13.heap.size, 1, none⟩ = some (.slice v2 M z2) := HX13.out.cell 1
    have q2 : wd.cell? ⟨q4, 0, none⟩ = some (.slice e1 N g1) := HXWC.out.cell 0
    have q3 : wd.cell? ⟨q4, 1, none⟩ = some (.slice e2 M g2) := HXWC.out.cell 1
    go_wp2_with fail
    refine HE13.out.mono ?_
    clear HE13 q0 q1 q2 q3 HX13 HXWC
    rintro e w14 ⟨rfl, hb14⟩
    have hXG14 := HXGC.out.below hb14 HXGC.out.lt
    have HQ14 := hidden (HH9.out w14 (HKC.out.below hb14))
    have HB14 := hidden (HBC.out.trans (hb14.mono HBC.out.size))
    have q0 : w14.cell? ⟨q6, 0, none⟩ = some (.slice p1 N d1) := hXG14.cell 0
    have q1 : w14.cell? ⟨q6, 1, none⟩ = some (.slice p2 M d2) := hXG14.cell 1
    clear hb14 hXG14 HKC HXGC HBC HH9 HEQ
    go_wp2_with fail
    refine HQ14.out.mono ?_
    clear HQ14 q0 q1
    rintro e w15 ⟨rfl, hb15⟩
    have HFIN := hidden (HBX.out w15 (HB14.out.trans (hb15.mono HB14.out.size))).1
    clear hb15 HB14 HBX
    go_wp2_with fail
    go_ret
    exact ⟨rfl, HFIN.out⟩

end Go.Proofs.Ytlkhfgfficehcaa

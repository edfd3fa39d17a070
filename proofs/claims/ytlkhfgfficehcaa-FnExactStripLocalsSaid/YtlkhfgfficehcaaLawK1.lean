/-
  The walk of FnExactStripLocals.
-/
import Derived.Test.YtlkhfgfficehcaaMarkK
import Derived.Test.YtlkhfgfficehcaaStpT
import Derived.Test.YtlkhfgfficehcaaOpenO
import Derived.Test.YtlkhfgfficehcaaStpX
import Derived.Deep.RegionWith
namespace Go.Proofs.Ytlkhfgfficehcaa
open Go.RowKit

theorem fixTo_lens {t : Int → Int} {s : Sx} (h : s.lens) : (fixTo t s).lens := by
  unfold fixTo Sx.lens
  simp only [List.length_map]
  exact h
theorem strip_few (go : Sm → Bool) (ss : List Sx) (ms : List Sm) (h : ∀ s ∈ ss, s.lens) : FewA (stripA go ss ms) (stripA go ss ms).1.length (stripA go ss ms).2.length := by
  unfold stripA
  split
  · rename_i hok
    obtain ⟨h1, h2, h3⟩ := objOk_parts hok
    refine ⟨by simpa using h1, Nat.le_trans (keptL_le _ _ (stays_length _ _ _)) h2, fun s hs => ?_⟩
    obtain ⟨s', hs', rfl⟩ := List.mem_map.1 hs
    obtain ⟨q1, q2, _⟩ := h3 s' hs'
    exact ⟨fixTo_lens (h s' hs'), q1, by unfold fixTo; simpa using q2⟩
  · exact ⟨by simp, by simp, by simp⟩
set_option maxRecDepth 100000 in
set_option maxHeartbeats 8000000 in
theorem law_ExactStripLocals (w : World) (a1 a2 : Option Addr) (c1 c2 n m : Nat) (l : List Sp) (ms : List Sm) (hn : n = l.length) (hm : m = ms.length) (h1 : Sects w w.heap.size a1 l) (h2 : Syms w w.heap.size a2 ms) (hlen : n ≤ 9223372036854775807) (hlem : m ≤ 9223372036854775807)
    (hl : ∀ y ∈ l, y.s.fits) (hs : ∀ x ∈ ms, x.fits) :
    Calls Try.prog 4 #[.agg #[.slice a1 n c1, .slice a2 m c2]] w fun e w' => e = .returned (.bool true) ∧ Below w.heap.size w w' := by
  have HSZ := hidden (fun (W : World) (hB : Below w.heap.size w W) => szObject_any W w.heap.size a1 a2 c1 c2 n m l ms hn hm (h1.below hB) (h2.below hB) hB.size hlen hlem (fun y hy => (hl y hy).lens) (fun x hx => (hs x hx).name) 1048576 (by omega) (by omega))
  have HTO := hidden (fun (W : World) (hB : Below w.heap.size w W) (k1 : n ≤ 1048576) (k2 : m ≤ 1048576) (k3 : ∀ y ∈ l, y.s.short) => toObject_any W w.heap.size a1 a2 c1 c2 n m l ms hn hm (h1.below hB) (h2.below hB) hB.size k1 k2 k3)
  obtain ⟨A, hA⟩ : ∃ A, stripA isLocal (l.map Sp.s) ms = A := ⟨_, rfl⟩
  have HFW := hidden (strip_few isLocal (l.map Sp.s) ms (fun s hs => by obtain ⟨y, hy, rfl⟩ := List.mem_map.1 hs; exact (hl y hy).lens))
  rw [hA] at HFW
  obtain ⟨N, hN⟩ : ∃ q, A.1.length = q := ⟨_, rfl⟩
  obtain ⟨M, hM⟩ : ∃ q, A.2.length = q := ⟨_, rfl⟩
  have HNE := hidden hN
  have HME := hidden hM
  rw [hN, hM] at HFW
  have HSP : Hid (∀ (W : World) (l' : List Sp) (g1 g2 : Nat), l'.map Sp.s = l.map Sp.s → Sects W W.heap.size (some ⟨g1, 0, none⟩) l' → Syms W W.heap.size (some ⟨g2, 0, none⟩) ms → n ≤ 1048576 → m ≤ 1048576 → (∀ y ∈ l, y.s.short) →
      Calls Try.prog 16 #[.agg #[.slice (some ⟨g1, 0, none⟩) n n, .slice (some ⟨g2, 0, none⟩) m m]] W (AnsN W A N M)) := fun W l' g1 g2 he k1 k2 q1 q2 q3 => by
    have := stripLocals'_any W W.heap.size (some ⟨g1, 0, none⟩) (some ⟨g2, 0, none⟩) n m n m l' ms (by rw [length_same he, ← hn]) hm k1 k2 (Nat.le_refl _) q1 q2 (short_same he q3) (fun x hx => (hs x hx).name)
    rw [he, hA] at this
    exact this.mono fun e w' h => h.parts hN hM
  have HIM : Hid (∀ (W : World) (l' : List Sp) (g1 g2 : Nat), l'.map Sp.s = l.map Sp.s → Sects W W.heap.size (some ⟨g1, 0, none⟩) l' → Syms W W.heap.size (some ⟨g2, 0, none⟩) ms → (∀ y ∈ l, y.s.short) →
      Calls Try.prog 18 #[.agg #[.slice (some ⟨g1, 0, none⟩) n n, .slice (some ⟨g2, 0, none⟩) m m]] W (AnsN W A N M)) := fun W l' g1 g2 he k1 k2 q3 => by
    have := stripLocals_any W W.heap.size (some ⟨g1, 0, none⟩) (some ⟨g2, 0, none⟩) n m n m l' ms (by rw [length_same he, ← hn]) hm k1 k2 (Nat.le_refl _) hlen hlem (fits_same he hl) hs (fun y hy => (short_same he q3 y hy).1)
    rw [he, hA] at this
    exact this.mono fun e w' h => h.parts hN hM
  have HEX : Hid (∀ (W : World) (B1 : Nat) (l1 l2 : List Sp) (g1 g2 h1 h2 : Nat), l1.map Sp.s = l.map Sp.s → l2.map Sp.s = l.map Sp.s → B1 ≤ W.heap.size → Sects W B1 (some ⟨g1, 0, none⟩) l1 → Syms W B1 (some ⟨g2, 0, none⟩) ms → Sects W W.heap.size (some ⟨h1, 0, none⟩) l2 → Syms W W.heap.size (some ⟨h2, 0, none⟩) ms →
      Calls Try.prog 19 #[.agg #[.slice (some ⟨g1, 0, none⟩) n n, .slice (some ⟨g2, 0, none⟩) m m], .agg #[.slice (some ⟨h1, 0, none⟩) n n, .slice (some ⟨h2, 0, none⟩) m m]] W fun e w' => e = .returned (.bool true) ∧ Below W.heap.size W w') := fun W B1 l1 l2 g1 g2 h1 h2 e1 e2 hB k1 k2 k3 k4 =>
    eqObject_yes W B1 W.heap.size (some ⟨g1, 0, none⟩) (some ⟨g2, 0, none⟩) (some ⟨h1, 0, none⟩) (some ⟨h2, 0, none⟩) n m n m n m l1 l2 ms (e1.trans e2.symm) (by rw [length_same e1, ← hn]) hm k1 k2 k3 k4 hB (Nat.le_refl _) hlen hlem (fun y hy => (fits_same e1 hl y hy).lens)
  have HLN := hidden hn
  have HLM := hidden hm
  unfold TookO at HTO
  unfold SizedO at HSZ
  clear h1 h2 hl hs hn hm hA hN hM
  go_enter Try.func4, Try.ntmps4
  have hb0 : Below w.heap.size w (w.alloc (.cells #[.slice a1 n c1, .slice a2 m c2] 39)) := (Below.refl _ _).alloc (Nat.le_refl _) _
  have hx0 : Has (w.alloc (.cells #[.slice a1 n c1, .slice a2 m c2] 39)) w.heap.size 39 #[.slice a1 n c1, .slice a2 m c2] := Has.new _ _ _
  go_wp2_with fail
  refine (HSZ.out _ hb0).mono ?_
  clear HSZ
  rintro e w1 ⟨r, rfl, hb1, hr0, hr1, hr2⟩
  have hx1 := hx0.below hb1 hx0.lt
  have hB1 := hb0.trans (hb1.mono hb0.size)
  by_cases hneg : r < 0
  · clear hr2 hx0 hx1
    go_wp2_with fail
    go_ret
    exact ⟨rfl, hB1⟩
  obtain ⟨⟨q1, q2⟩, q3, _⟩ := hr2 (by omega)
  have hl1 : n ≤ 1048576 := by rw [HLN.out]; exact q1
  have hl2 : m ≤ 1048576 := by rw [HLM.out]; exact q3
  have HSH := hidden q2
  have x0 : World.cell? w1 ⟨w.heap.size, 0, none⟩ = some (.slice a1 n c1) := hx1.cell 0
  have x1 : World.cell? w1 ⟨w.heap.size, 1, none⟩ = some (.slice a2 m c2) := hx1.cell 1
  clear hr2 hx0 hb0 hb1 q1 q2 q3
  have HX1 := hidden hx1
  clear hx1
  -- the model's answer
  go_wp2_with fail
  refine (HTO.out w1 hB1 hl1 hl2 HSH.out).mono ?_
  rintro e w2 ⟨l2, f1, f2, he2, rfl, hi2, hf2, hb2, -, -, -⟩
  have hB2 := hB1.trans (hb2.mono hB1.size)
  have hx2 := HX1.out.below hb2 HX1.out.lt
  have HS2 := hidden (HSP.out w2 l2 f1 f2 he2 hi2 hf2 hl1 hl2 HSH.out)
  clear x0 x1 hi2 hf2 hb2 hB1 HX1 HSP he2
  go_wp2_with fail
  refine HS2.out.mono ?_
  clear HS2
  rintro e w3 ⟨LW, e1, e2, g1, g2, rfl, hLW, hOW, hb3⟩
  have hB3 := hB2.trans (hb3.mono hB2.size)
  have hx3 := hx2.below hb3 hx2.lt
  have hb3a : Below w3.heap.size w3 (w3.alloc (.cells #[.slice e1 N g1, .slice e2 M g2] 26)) := (Below.refl _ _).alloc (Nat.le_refl _) _
  have hx4 : Has (w3.alloc (.cells #[.slice e1 N g1, .slice e2 M g2] 26)) w3.heap.size 26 #[.slice e1 N g1, .slice e2 M g2] := Has.new _ _ _
  have hs3 : (w3.alloc (.cells #[.slice e1 N g1, .slice e2 M g2] 26)).heap.size = w3.heap.size + 1 := by simp
  obtain ⟨W3, hW3⟩ : ∃ q, w3.alloc (.cells #[.slice e1 N g1, .slice e2 M g2] 26) = q := ⟨_, rfl⟩
  obtain ⟨q4, hq4⟩ : ∃ q, w3.heap.size = q := ⟨_, rfl⟩
  rw [hW3, hq4] at hx4
  rw [hW3] at hb3a
  rw [hW3, hq4] at hs3
  have HLW := hidden hLW
  -- what stays of the time up to the model's answer
  have HBX : Hid (∀ W, Below w3.heap.size w3 W → Below w.heap.size w W ∧ Has W w.heap.size 39 #[.slice a1 n c1, .slice a2 m c2]) := fun W hW => ⟨hB3.trans (hW.mono hB3.size), hx3.below hW hx3.lt⟩
  have HEQ : Hid (∀ (W : World) (L' : List Sp) (p1 p2 : Option Addr) (d1 d2 lo' : Nat), L'.map Sp.s = A.1 → OwnR W lo' p1 p2 N M d1 d2 L' A.2 → Below w3.heap.size w3 W → Calls Try.prog 19 #[.agg #[.slice p1 N d1, .slice p2 M d2], .agg #[.slice e1 N g1, .slice e2 M g2]] W fun e w' => e = .returned (.bool true) ∧ Below W.heap.size W w') := fun W L' p1 p2 d1 d2 lo' he hg hb => by
    obtain ⟨hf8, hf12, hfs⟩ := HFW.out
    exact eqObject_yes W W.heap.size w3.heap.size p1 p2 e1 e2 d1 d2 g1 g2 N M L' LW A.2 (he.trans HLW.out.symm) hg.len.symm HME.out.symm hg.sects hg.syms' (hOW.sects.below hb) (hOW.syms'.below hb) (Nat.le_refl _) hb.size (by omega) (by omega) (fun y hy => by
      have hym : y.s ∈ A.1 := by rw [← he]; exact List.mem_map_of_mem hy
      exact (hfs y.s hym).1)
  have HB3A := hidden hb3a
  have HX4 := hidden hx4
  have HW3 := hidden hW3
  have HQ4 := hidden hq4
  have HS3 := hidden hs3
  obtain ⟨hbw3, hbox3⟩ := HBX.out W3 hb3a
  have x0 : W3.cell? ⟨w.heap.size, 0, none⟩ = some (.slice a1 n c1) := hbox3.cell 0
  have x1 : W3.cell? ⟨w.heap.size, 1, none⟩ = some (.slice a2 m c2) := hbox3.cell 1
  have HT3 := hidden (HTO.out W3 hbw3 hl1 hl2 HSH.out)
  clear hx2 hB2 hB3 hx3 hb3 hOW hLW hx4 hb3a hW3 hq4 hs3 hbw3 hbox3
  go_upto_region 6 with fail
  rw [HW3.out, HQ4.out]
  clear HW3
  -- the program's argument
  go_wp2_with fail
  refine HT3.out.mono ?_
  clear HT3
  rintro e w4 ⟨l4, k1, k2, he4, rfl, hi4, hf4, hb4, hlk1, hlk2, hfar4, ⟨cs4, hcs4, hfx4⟩, ⟨cm4, hcm4, hcm4s⟩⟩
  have hB4 := HB3A.out.trans (hb4.mono HB3A.out.size)
  have hx4 := HX4.out.below hb4 HX4.out.lt
  have hX5 : Has (w4.alloc (.cells #[.slice (some ⟨k1, 0, none⟩) n n, .slice (some ⟨k2, 0, none⟩) m m] 26)) w4.heap.size 26 #[.slice (some ⟨k1, 0, none⟩) n n, .slice (some ⟨k2, 0, none⟩) m m] := Has.new _ _ _
  have hbA : Below w4.heap.size w4 (w4.alloc (.cells #[.slice (some ⟨k1, 0, none⟩) n n, .slice (some ⟨k2, 0, none⟩) m m] 26)) := (Below.refl _ _).alloc (Nat.le_refl _) _
  have s4 : (w4.alloc (.cells #[.slice (some ⟨k1, 0, none⟩) n n, .slice (some ⟨k2, 0, none⟩) m m] 26)).heap.size = w4.heap.size + 1 := by simp
  have hi4a : Sects (w4.alloc (.cells #[.slice (some ⟨k1, 0, none⟩) n n, .slice (some ⟨k2, 0, none⟩) m m] 26)) (w4.alloc (.cells #[.slice (some ⟨k1, 0, none⟩) n n, .slice (some ⟨k2, 0, none⟩) m m] 26)).heap.size (some ⟨k1, 0, none⟩) l4 := (hi4.alloc (Nat.le_refl _) _).more (by simp)
  have hf4a : Syms (w4.alloc (.cells #[.slice (some ⟨k1, 0, none⟩) n n, .slice (some ⟨k2, 0, none⟩) m m] 26)) (w4.alloc (.cells #[.slice (some ⟨k1, 0, none⟩) n n, .slice (some ⟨k2, 0, none⟩) m m] 26)).heap.size (some ⟨k2, 0, none⟩) ms := (hf4.alloc (Nat.le_refl _) _).more (by simp)
  obtain ⟨W4, hW4⟩ : ∃ q, w4.alloc (.cells #[.slice (some ⟨k1, 0, none⟩) n n, .slice (some ⟨k2, 0, none⟩) m m] 26) = q := ⟨_, rfl⟩
  obtain ⟨q5, hq5⟩ : ∃ q, w4.heap.size = q := ⟨_, rfl⟩
  rw [hW4] at hi4a hf4a hbA
  rw [hW4, hq5] at s4 hX5
  have HE4 := hidden he4
  have HI4 := hidden (HIM.out W4 l4 k1 k2 he4 hi4a hf4a HSH.out)
  have HB4 := hidden (hB4.trans (hbA.mono hB4.size))
  have HX4a := hidden (hx4.below hbA hx4.lt)
  have HX5 := hidden hX5
  have HAA := hidden hbA
  have HFAR := hidden hfar4
  have HCS := hidden hcs4
  have HFX := hidden hfx4
  have HCM := hidden hcm4
  have HCMS := hidden hcm4s
  have HIX := hidden hi4a
  have HFXS := hidden hf4a
  have HLK := hidden (And.intro hlk1 hlk2)
  have HW4 := hidden hW4
  have HQ5 := hidden hq5
  have S4 := hidden s4
  have HSW4 : Hid (W3.heap.size ≤ w4.heap.size) := hb4.size
  have y0 : W4.cell? ⟨q5, 0, none⟩ = some (.slice (some ⟨k1, 0, none⟩) n n) := hX5.cell 0
  have y1 : W4.cell? ⟨q5, 1, none⟩ = some (.slice (some ⟨k2, 0, none⟩) m m) := hX5.cell 1
  clear x0 x1 hi4 hf4 hb4 hx4 he4 hi4a hf4a hX5 hB4 s4 hfar4 hcs4 hfx4 hcm4 hcm4s hbA hW4 hq5 hlk1 hlk2 HX4 HB3A
  go_upto_region 7 with fail
  rw [HW4.out, HQ5.out]
  clear HW4
  go_wp2_with fail
  refine HI4.out.mono ?_
  clear HI4 y0 y1
  rintro e w5 ⟨L, p1, p2, d1, d2, rfl, hL, hO, hb5⟩
  have hX6 : Has (w5.alloc (.cells #[.slice p1 N d1, .slice p2 M d2] 26)) w5.heap.size 26 #[.slice p1 N d1, .slice p2 M d2] := Has.new _ _ _
  have hb5a : Below w5.heap.size w5 (w5.alloc (.cells #[.slice p1 N d1, .slice p2 M d2] 26)) := (Below.refl _ _).alloc (Nat.le_refl _) _
  obtain ⟨W5, hW5⟩ : ∃ q, w5.alloc (.cells #[.slice p1 N d1, .slice p2 M d2] 26) = q := ⟨_, rfl⟩
  obtain ⟨q6, hq6⟩ : ∃ q, w5.heap.size = q := ⟨_, rfl⟩
  have hq6l : W4.heap.size ≤ q6 := by rw [← hq6]; exact hb5.size
  rw [hW5] at hb5a
  rw [hW5, hq6] at hX6
  have hbb : Below W4.heap.size W4 W5 := hb5.trans (hb5a.mono hb5.size)
  have HO5 := hidden (hO.below hb5a)
  have HX65 := hidden hX6
  have HX45 := hidden (HX4a.out.below hbb HX4a.out.lt)
  have HX55 := hidden (HX5.out.below hbb HX5.out.lt)
  have HB5 := hidden (HB4.out.trans (hbb.mono HB4.out.size))
  have HA5 := hidden (HAA.out.trans (hbb.mono HAA.out.size))
  have HI5 := hidden (HIX.out.below hbb)
  have HF5 := hidden (HFXS.out.below hbb)
  have HS5 : Hid (W4.heap.size ≤ W5.heap.size) := hbb.size
  have HL := hidden hL
  have HQ6 := hidden hq6l
  have HE1 := hidden (HEQ.out W5 L p1 p2 d1 d2 W4.heap.size hL HO5.out HB5.out)
  have HWB := hidden hW5
  have HQ66 := hidden hq6
  clear hX6 hb5a hbb hO hb5 hL hW5 hq6 HX4a HX5 HB4 HAA HIX HFXS hq6l
  go_upto_region 8 with fail
  rw [HWB.out, HQ66.out]
  clear HWB HQ66
  have t0 : W5.cell? ⟨q6, 0, none⟩ = some (.slice p1 N d1) := HX65.out.cell 0
  have t1 : W5.cell? ⟨q6, 1, none⟩ = some (.slice p2 M d2) := HX65.out.cell 1
  have u0 : W5.cell? ⟨q4, 0, none⟩ = some (.slice e1 N g1) := HX45.out.cell 0
  have u1 : W5.cell? ⟨q4, 1, none⟩ = some (.slice e2 M g2) := HX45.out.cell 1
  go_wp2_with fail
  refine HE1.out.mono ?_
  clear HE1 t0 t1 u0 u1
  rintro e w6 ⟨rfl, hb6⟩
  have HO6 := hidden (HO5.out.below hb6)
  have HX66 := hidden (HX65.out.below hb6 HX65.out.lt)
  have HX46 := hidden (HX45.out.below hb6 HX45.out.lt)
  have HX56 := hidden (HX55.out.below hb6 HX55.out.lt)
  have HB6 := hidden (HB5.out.trans (hb6.mono HB5.out.size))
  have HA6 := hidden (HA5.out.trans (hb6.mono HA5.out.size))
  have HI6 := hidden (HI5.out.below (hb6.mono HS5.out))
  have HF6 := hidden (HF5.out.below (hb6.mono HS5.out))
  have HS6 : Hid (W4.heap.size ≤ w6.heap.size) := Nat.le_trans HS5.out hb6.size
  clear hb6 HO5 HX65 HX45 HX55 HB5 HA5 HI5 HF5 HS5
  have x0 : World.cell? w6 ⟨w.heap.size, 0, none⟩ = some (.slice a1 n c1) := (HBX.out w6 HB6.out).2.cell 0
  have x1 : World.cell? w6 ⟨w.heap.size, 1, none⟩ = some (.slice a2 m c2) := (HBX.out w6 HB6.out).2.cell 1
  have y0 : World.cell? w6 ⟨q5, 0, none⟩ = some (.slice (some ⟨k1, 0, none⟩) n n) := HX56.out.cell 0
  have y1 : World.cell? w6 ⟨q5, 1, none⟩ = some (.slice (some ⟨k2, 0, none⟩) m m) := HX56.out.cell 1
  have hB6d : Below w.heap.size w w6.drew := (HBX.out w6 HB6.out).1.drew
  have HTD := hidden (HTO.out w6.drew hB6d hl1 hl2 HSH.out)
  have HYD : Hid (Has w6.drew q5 26 #[.slice (some ⟨k1, 0, none⟩) n n, .slice (some ⟨k2, 0, none⟩) m m]) := HX56.out
  have HID : Hid (Sects w6.drew W4.heap.size (some ⟨k1, 0, none⟩) l4) := HI6.out.drewN 1
  have HFD : Hid (Syms w6.drew W4.heap.size (some ⟨k2, 0, none⟩) ms) := HF6.out.drewN 1
  have HSD : Hid (W4.heap.size ≤ w6.drew.heap.size) := HS6.out
  go_upto_region 10 with fail
  go_cut [31] from 27 (fun v wx => v = .bool false ∧ Hid (Below w6.heap.size w6 wx))
  case first =>
    go_region_with (first
      | (go_at_call 17; refine HTD.out.mono ?_; rintro e w7 ⟨l7, h1, h2, he7, rfl, hi7, hf7, hb7, -, -, -⟩;
         have HB7 := hidden hb7; have HI7 := hidden hi7; have HF7 := hidden hf7; have HE7 := hidden he7; have hy7 := HYD.out.below hb7 HYD.out.lt; clear hi7 hf7 hb7 he7;
         have v0 := hy7.cell 0; have v1 := hy7.cell 1;
         simp only [List.getElem?_toArray, List.getElem?_cons_zero, List.getElem?_cons_succ] at v0 v1; clear hy7)
      | (go_at_call 19; refine (HEX.out _ _ l4 l7 k1 k2 _ _ HE4.out HE7.out (Nat.le_trans HSD.out HB7.out.size) (HID.out.below (HB7.out.mono HSD.out)) (HFD.out.below (HB7.out.mono HSD.out)) HI7.out HF7.out).mono ?_; rintro e w8 ⟨rfl, hb8⟩))
    all_goals
      have hB8 : Below w6.heap.size w6 w8 := ((Below.refl _ _).drew.trans HB7.out).trans (hb8.mono HB7.out.size)
      clear hb8
      go_wp2_with fail
      go_meet
      exact ⟨rfl, hB8⟩
  case rest =>
    obtain ⟨rfl, hbc⟩ := hcut
    have HOc := hidden (HO6.out.below hbc.out)
    have HX6c := hidden (HX66.out.below hbc.out HX66.out.lt)
    have HX4c := hidden (HX46.out.below hbc.out HX46.out.lt)
    have HX5c := hidden (HX56.out.below hbc.out HX56.out.lt)
    have HBc := hidden (HB6.out.trans (hbc.out.mono HB6.out.size))
    have HAc := hidden (HA6.out.trans (hbc.out.mono HA6.out.size))
    clear HTD HYD HID HFD HSD hB6d x0 x1 y0 y1 HO6 HX66 HX46 HX56 HB6 HA6 HI6 HF6 HS6 hbc HEX
    have y0 : World.cell? wc ⟨q5, 0, none⟩ = some (.slice (some ⟨k1, 0, none⟩) n n) := HX5c.out.cell 0
    have y1 : World.cell? wc ⟨q5, 1, none⟩ = some (.slice (some ⟨k2, 0, none⟩) m m) := HX5c.out.cell 1
    have HMK := hidden (markObject_mk wc W3.heap.size w4.heap.size k1 k2 n m n m l4 cs4 cm4 1 (by rw [length_same HE4.out]; exact HLN.out) (HCS.out.below HAc.out HCS.out.lt) HFX.out.keptX HLK.out.1 HCS.out.lt (fun y hy => (HFAR.out y hy).below HAc.out)
      (fun y hy b hb => by
        obtain ⟨b1, b2, ha1, ha2, _, _, _, _, ⟨cb, k1, _⟩, ⟨cf, k2, _⟩⟩ := HFAR.out y hy
        rcases hb with hb | hb
        · rw [ha1] at hb; injection hb with hb; injection hb with e1; rw [← e1]; exact k1.lt
        · rw [ha2] at hb; injection hb with hb; injection hb with e1; rw [← e1]; exact k2.lt)
      (fun y hy => by
        have hm : y.s ∈ l.map Sp.s := by rw [← HE4.out]; exact List.mem_map_of_mem hy
        obtain ⟨z, hz, e⟩ := List.mem_map.1 hm
        rw [← e]; exact HSH.out z hz)
      (HCM.out.below HAc.out HCM.out.lt) HCMS.out (Nat.le_trans HLK.out.1 (Nat.le_of_lt HLK.out.2)) HCM.out.lt hl1 hl2 (by omega) (by omega) HAc.out.size)
    go_wp2_with fail
    refine HMK.out.mono ?_
    clear HMK y0 y1
    rintro e w7 ⟨r7, rfl, r70, hmk⟩
    have s3 := HS3.out
    have s4 := S4.out
    have sw := HSW4.out
    have e5 := HQ5.out
    have e4 := HQ4.out
    have HO7 := hidden (HOc.out.marked hmk (by omega))
    have HX67 := hidden (HX6c.out.mkK hmk (.inr (by have := HQ6.out; omega)))
    have HX47 := hidden (HX4c.out.mkK hmk (.inl (by omega)))
    have HB7 := hidden (hmk.belowK HBc.out (by omega) HBc.out.size)
    have HE7 := hidden (HEQ.out w7 L p1 p2 d1 d2 W4.heap.size HL.out HO7.out HB7.out)
    have hr7 : ¬ r7 < 0 := by omega
    have hr7' : decide (r7 < 0) = false := by simp [hr7]
    have t0 : w7.cell? ⟨q6, 0, none⟩ = some (.slice p1 N d1) := HX67.out.cell 0
    have t1 : w7.cell? ⟨q6, 1, none⟩ = some (.slice p2 M d2) := HX67.out.cell 1
    have u0 : w7.cell? ⟨q4, 0, none⟩ = some (.slice e1 N g1) := HX47.out.cell 0
    have u1 : w7.cell? ⟨q4, 1, none⟩ = some (.slice e2 M g2) := HX47.out.cell 1
    clear HOc HX6c HX4c HX5c HBc HAc hmk HFAR HCS HFX HCM HCMS s3 s4 sw e5 e4
    go_wp2_with fail
    refine HE7.out.mono ?_
    clear HE7 t0 t1 u0 u1 hr7 hr7'
    rintro e w9 ⟨rfl, hb9⟩
    have hG9 := HO7.out.below hb9
    have hXG9 := HX67.out.below hb9 HX67.out.lt
    have q0 : w9.cell? ⟨q6, 0, none⟩ = some (.slice p1 N d1) := hXG9.cell 0
    have q1 : w9.cell? ⟨q6, 1, none⟩ = some (.slice p2 M d2) := hXG9.cell 1
    have HXG9 := hidden hXG9
    have HXW9 := hidden (HX47.out.below hb9 HX47.out.lt)
    have HB9 := hidden (HB7.out.trans (hb9.mono HB7.out.size))
    have hst : (1 : Int) + (startS L L.length : Nat) + 4 * (M : Int) ≤ 4611686018427387904 := by
      have h1 := startS_few (L := L) (by rw [← List.length_map (f := Sp.s), HL.out, HNE.out]; exact HFW.out.1) (fun y hy => (HFW.out.2.2 y.s (by rw [← HL.out]; exact List.mem_map_of_mem hy)).2)
      have h2 := HFW.out.2.1
      omega
    have HNN : Hid (N = L.length) := by show _ = _; rw [← List.length_map (f := Sp.s), HL.out, HNE.out]
    have HK9 := hidden (markObject_wide w9 W4.heap.size N M d1 d2 p1 p2 L 1 HNN.out hG9.resO (by omega) hst)
    obtain ⟨R, hR⟩ : ∃ R : Int, (1 : Int) + (startS L L.length : Nat) + 4 * (M : Int) = R := ⟨_, rfl⟩
    have hR0 : 0 ≤ R := by omega
    have HH9 : Hid (∀ W, MarkedO W W4.heap.size p1 p2 L M 1 → Calls Try.prog 21 #[.agg #[.slice p1 N d1, .slice p2 M d2], .int .i64 1] W fun e w' => e = .returned (.int .i64 R) ∧ Below W.heap.size W w') := fun W hW => by
      have := heldObject_wide W W4.heap.size N M d1 d2 p1 p2 L 1 HNN.out hW (by omega) hst
      rwa [hR] at this
    rw [hR] at HK9
    have hlow : w3.heap.size ≤ W4.heap.size := by have := HS3.out; have := S4.out; have := HSW4.out; have := HQ5.out; have := HQ4.out; omega
    clear hb9 hG9 hXG9 HO7 HX67 HX47 HB7 hst hR
    go_wp2_with fail
    refine HK9.out.mono ?_
    clear HK9 q0 q1
    rintro e w10 ⟨rfl, hmk, hb10, hkp⟩
    have hXG10 := hkp _ _ _ (by decide) (by decide) (by decide) (by decide) HXG9.out
    have HXW10 := hidden (hkp _ _ _ (by decide) (by decide) (by decide) (by decide) HXW9.out)
    have HB10 := hidden (HB9.out.trans (hb10.mono hlow))
    have HK10 := hidden hmk
    have HQ10 := hidden (HH9.out w10 hmk)
    have q0 : w10.cell? ⟨q6, 0, none⟩ = some (.slice p1 N d1) := hXG10.cell 0
    have q1 : w10.cell? ⟨q6, 1, none⟩ = some (.slice p2 M d2) := hXG10.cell 1
    have HXG10 := hidden hXG10
    have hR1 : ¬ R < 0 := by omega
    clear hmk hb10 hkp hXG10 HXG9 HXW9 HB9 hlow
    go_wp2_with fail
    refine HQ10.out.mono ?_
    clear HQ10 q0 q1
    rintro e w11 ⟨rfl, hb11⟩
    have HK11 := hidden (HK10.out.below hb11)
    have HXG11 := hidden (HXG10.out.below hb11 HXG10.out.lt)
    have HXW11 := hidden (HXW10.out.below hb11 HXW10.out.lt)
    have HB11 := hidden (HB10.out.trans (hb11.mono HB10.out.size))
    obtain ⟨hbw11, hbox11⟩ := HBX.out w11 HB11.out
    have x0 : w11.cell? ⟨w.heap.size, 0, none⟩ = some (.slice a1 n c1) := hbox11.cell 0
    have x1 : w11.cell? ⟨w.heap.size, 1, none⟩ = some (.slice a2 m c2) := hbox11.cell 1
    have HT11 := hidden (HTO.out w11 hbw11 hl1 hl2 HSH.out)
    clear hb11 HK10 HXG10 HXW10 HB10 hbw11 hbox11 HTO
    go_wp2_with fail
    refine HT11.out.mono ?_
    clear HT11 x0 x1
    rintro e w12 ⟨l7, f3, f4, he7, rfl, hi7, hf7, hb12, -, -, -⟩
    have HI12 := hidden (HIM.out w12 l7 f3 f4 he7 hi7 hf7 HSH.out)
    have HK12 := hidden (HK11.out.below hb12)
    have HXG12 := hidden (HXG11.out.below hb12 HXG11.out.lt)
    have HXW12 := hidden (HXW11.out.below hb12 HXW11.out.lt)
    have HB12 := hidden (HB11.out.trans (hb12.mono HB11.out.size))
    clear hb12 HK11 HXG11 HXW11 HB11 HIM hi7 hf7 he7
    go_wp2_with fail
    refine HI12.out.mono ?_
    clear HI12
    rintro e w13 ⟨L13, v1, v2, z1, z2, rfl, hL13, ho, hb13⟩
    have hb13a : Below w13.heap.size w13 (w13.alloc (.cells #[.slice v1 N z1, .slice v2 M z2] 26)) := (Below.refl _ _).alloc (Nat.le_refl _) _
    have hX13 : Has (w13.alloc (.cells #[.slice v1 N z1, .slice v2 M z2] 26)) w13.heap.size 26 #[.slice v1 N z1, .slice v2 M z2] := Has.new _ _ _
    obtain ⟨wd, hwd⟩ : ∃ q, w13.alloc (.cells #[.slice v1 N z1, .slice v2 M z2] 26) = q := ⟨_, rfl⟩
    rw [hwd] at hb13a hX13
    have hbc : Below w12.heap.size w12 wd := hb13.trans (hb13a.mono hb13.size)
    have HKC := hidden (HK12.out.below hbc)
    have HXGC := hidden (HXG12.out.below hbc HXG12.out.lt)
    have HXWC := hidden (HXW12.out.below hbc HXW12.out.lt)
    have HBC := hidden (HB12.out.trans (hbc.mono HB12.out.size))
    have HE13 := hidden (HEQ.out wd L13 v1 v2 z1 z2 w12.heap.size hL13 (ho.below hb13a) HBC.out)
    have HWC := hidden hwd
    have HX13 := hidden hX13
    clear hb13 hb13a hX13 hwd hbc ho hL13 HK12 HXG12 HXW12 HB12
    go_upto_region 25 with fail
    rw [HWC.out]
    clear HWC
    have q0 : wd.cell? ⟨w13.heap.size, 0, none⟩ = some (.slice v1 N z1) := HX13.out.cell 0
    have q1 : wd.cell? ⟨w13.heap.size, 1, none⟩ = some (.slice v2 M z2) := HX13.out.cell 1
    have q2 : wd.cell? ⟨q4, 0, none⟩ = some (.slice e1 N g1) := HXWC.out.cell 0
    have q3 : wd.cell? ⟨q4, 1, none⟩ = some (.slice e2 M g2) := HXWC.out.cell 1
    go_wp2_with fail
    refine HE13.out.mono ?_
    clear HE13 q0 q1 q2 q3 HX13 HXWC
    rintro e w14 ⟨rfl, hb14⟩
    have hXG14 := HXGC.out.below hb14 HXGC.out.lt
    have HQ14 := hidden (HH9.out w14 (HKC.out.below hb14))
    have HB14 := hidden (HBC.out.trans (hb14.mono HBC.out.size))
    have q0 : w14.cell? ⟨q6, 0, none⟩ = some (.slice p1 N d1) := hXG14.cell 0
    have q1 : w14.cell? ⟨q6, 1, none⟩ = some (.slice p2 M d2) := hXG14.cell 1
    clear hb14 hXG14 HKC HXGC HBC HH9 HEQ
    go_wp2_with fail
    refine HQ14.out.mono ?_
    clear HQ14 q0 q1
    rintro e w15 ⟨rfl, hb15⟩
    have HFIN := hidden (HBX.out w15 (HB14.out.trans (hb15.mono HB14.out.size))).1
    clear hb15 HB14 HBX
    go_wp2_with fail
    go_ret
    exact ⟨rfl, HFIN.out⟩

end Go.Proofs.Ytlkhfgfficehcaa

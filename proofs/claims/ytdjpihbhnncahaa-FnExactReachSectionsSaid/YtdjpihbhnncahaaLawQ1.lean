/-
  The walk of FnExactReachSections.
-/
import Derived.Test.YtdjpihbhnncahaaRchI
import Derived.Test.YtdjpihbhnncahaaRchS
import Derived.Test.YtdjpihbhnncahaaIntS
import Derived.Test.YtdjpihbhnncahaaMarkB
import Derived.Test.YtdjpihbhnncahaaOpenT
import Derived.Test.YtdjpihbhnncahaaOpenO
import Derived.Deep.RegionWith
namespace Go.Proofs.Ytdjpihbhnncahaa
open Go.RowKit

theorem wf_i64 {x : Int} (h0 : 0 ≤ x) (h1 : x < 1000) : (Lit.int .i64 x).wf = true := by
  simp [Lit.wf, IntKind.min, IntKind.max, IntKind.signed, IntKind.bits]; omega
theorem reachA_few (K : List ByteArray) (ss : List Sx) (ms : List Sm) : (reachA K ss ms).length ≤ 8 ∧ ∀ x ∈ reachA K ss ms, (Lit.int .i64 x).wf = true := by
  unfold reachA
  split
  · rename_i hok
    have hl := (objOk_parts hok).1
    have h1 := numsM_le 0 (reachB K ss ms)
    rw [reachB_length] at h1
    refine ⟨by omega, fun x hx => ?_⟩
    obtain ⟨i, hi, rfl⟩ := (numsM_mem _ _ _).1 hx
    have hil := (List.getElem?_eq_some_iff.1 hi).1
    rw [reachB_length] at hil
    exact wf_i64 (by omega) (by omega)
  · exact ⟨by simp, by simp⟩
theorem own_ints {W : World} {lo N c : Nat} {a : Option Addr} {A : List Int} (h : W.ownsRow lo 3 1 (.slice a N c) N (A.map (Value.int .i64))) (hN : A.length = N) (hwf : ∀ x ∈ A, (Lit.int .i64 x).wf = true) : Ints W .i64 W.heap.size a A := by
  subst hN
  obtain ⟨a', c', e, _, _, hi⟩ := ints_of_own3 h hwf
  injection e with e1
  subst e1
  exact hi
theorem own_blockI {W : World} {lo N c : Nat} {a : Option Addr} {xs : List Value} (h : W.ownsRow lo 3 1 (.slice a N c) N xs) (_ : lo ≤ W.heap.size) : ∃ g, lo ≤ g ∧ (0 < N → a = some ⟨g, 0, none⟩ ∧ ∃ cs, Has W g 3 cs ∧ N ≤ cs.size) := by
  rcases h.2 with ⟨_, h0⟩ | ⟨g, cap, cur, e, hb, hh, h1, _, h3, _⟩
  · exact ⟨lo, Nat.le_refl _, fun h => by omega⟩
  · injection e with e1
    exact ⟨g, hb, fun _ => ⟨e1, cur, hh, by omega⟩⟩
set_option maxRecDepth 100000 in
set_option maxHeartbeats 8000000 in
theorem law_ExactReachSections (w : World) (a1 a2 : Option Addr) (c1 c2 n m : Nat) (l : List Sp) (ms : List Sm) (hn : n = l.length) (hm : m = ms.length) (h1 : Sects w w.heap.size a1 l) (h2 : Syms w w.heap.size a2 ms) (hlen : n ≤ 9223372036854775807) (hlem : m ≤ 9223372036854775807)
    (hl : ∀ y ∈ l, y.s.fits) (hs : ∀ x ∈ ms, x.fits) (K : List ByteArray) (ka : Option Addr) (nk kc : Nat) (hkn : nk = K.length) (hkv : Vals w w.heap.size ka (K.map Value.string)) (hkm : nk ≤ 9223372036854775807) (hks : ∀ s ∈ K, s.size ≤ maxLen) :
    Calls Try.prog 5 #[.agg #[.slice a1 n c1, .slice a2 m c2], .slice ka nk kc] w fun e w' => e = .returned (.bool true) ∧ Below w.heap.size w w' := by
  have HSZ := hidden (fun (W : World) (hB : Below w.heap.size w W) => szObject_any W w.heap.size a1 a2 c1 c2 n m l ms hn hm (h1.below hB) (h2.below hB) hB.size hlen hlem (fun y hy => (hl y hy).lens) (fun x hx => (hs x hx).name) 1048576 (by omega) (by omega))
  have HTO := hidden (fun (W : World) (hB : Below w.heap.size w W) (k1 : n ≤ 1048576) (k2 : m ≤ 1048576) (k3 : ∀ y ∈ l, y.s.short) => toObject_any W w.heap.size a1 a2 c1 c2 n m l ms hn hm (h1.below hB) (h2.below hB) hB.size k1 k2 k3)
  have HZK := hidden (fun (W : World) (hB : Below w.heap.size w W) (left : Int) (h0 : 0 ≤ left) (h1 : left ≤ 1048576) => szStringS_any W w.heap.size ka kc nk K hkn (hkv.below hB) hkm hks left h0 h1)
  have HTS := hidden (fun (W : World) (hB : Below w.heap.size w W) (k1 : nk ≤ 1048576) => toStringS_any W w.heap.size ka kc nk K hkn (hkv.below hB) hB.size k1)
  have HKN := hidden hkn
  obtain ⟨A, hA⟩ : ∃ A, reachA K (l.map Sp.s) ms = A := ⟨_, rfl⟩
  obtain ⟨hA8, hAw⟩ := reachA_few K (l.map Sp.s) ms
  rw [hA] at hA8 hAw
  obtain ⟨N, hN⟩ : ∃ q, A.length = q := ⟨_, rfl⟩
  rw [hN] at hA8
  have HNE := hidden hN
  have HAW := hidden hAw
  have HSP : Hid (∀ (W : World) (l' : List Sp) (g1 g2 : Nat), l'.map Sp.s = l.map Sp.s → Sects W W.heap.size (some ⟨g1, 0, none⟩) l' → Syms W W.heap.size (some ⟨g2, 0, none⟩) ms → ∀ kb, Has W kb 9 (K.map Value.string).toArray →
      Calls Try.prog 10 #[.agg #[.slice (some ⟨g1, 0, none⟩) n n, .slice (some ⟨g2, 0, none⟩) m m], .slice (some ⟨kb, 0, none⟩) nk nk] W (AnsI W A N)) := fun W l' g1 g2 he k1 k2 kb hkb => by
    have := reachSections'_any W W.heap.size (some ⟨g1, 0, none⟩) (some ⟨g2, 0, none⟩) n m n m l' ms (by rw [length_same he, ← hn]) hm k1 k2 (Nat.le_refl _) hlen hlem (fun y hy => (fits_same he hl y hy).lens) (fun x hx => (hs x hx).name) K (some ⟨kb, 0, none⟩) nk nk (vals_has hkb) hkn.symm hkm N (by rw [he, hA, hN])
    rwa [he, hA] at this
  have HIM : Hid (∀ (W : World) (l' : List Sp) (g1 g2 : Nat), l'.map Sp.s = l.map Sp.s → Sects W W.heap.size (some ⟨g1, 0, none⟩) l' → Syms W W.heap.size (some ⟨g2, 0, none⟩) ms → ∀ kb, Has W kb 9 (K.map Value.string).toArray →
      Calls Try.prog 8 #[.agg #[.slice (some ⟨g1, 0, none⟩) n n, .slice (some ⟨g2, 0, none⟩) m m], .slice (some ⟨kb, 0, none⟩) nk nk] W (AnsI W A N)) := fun W l' g1 g2 he k1 k2 kb hkb => by
    have := reachSections_any W W.heap.size (some ⟨g1, 0, none⟩) (some ⟨g2, 0, none⟩) n m n m l' ms (by rw [length_same he, ← hn]) hm k1 k2 (Nat.le_refl _) hlen hlem (fits_same he hl) hs K (some ⟨kb, 0, none⟩) nk nk (vals_has hkb) hkn.symm hkm N (by rw [he, hA, hN])
    rwa [he, hA] at this
  have HEX : Hid (∀ (W : World) (B1 : Nat) (l1 l2 : List Sp) (g1 g2 h1 h2 : Nat), l1.map Sp.s = l.map Sp.s → l2.map Sp.s = l.map Sp.s → B1 ≤ W.heap.size → Sects W B1 (some ⟨g1, 0, none⟩) l1 → Syms W B1 (some ⟨g2, 0, none⟩) ms → Sects W W.heap.size (some ⟨h1, 0, none⟩) l2 → Syms W W.heap.size (some ⟨h2, 0, none⟩) ms →
      Calls Try.prog 24 #[.agg #[.slice (some ⟨g1, 0, none⟩) n n, .slice (some ⟨g2, 0, none⟩) m m], .agg #[.slice (some ⟨h1, 0, none⟩) n n, .slice (some ⟨h2, 0, none⟩) m m]] W fun e w' => e = .returned (.bool true) ∧ Below W.heap.size W w') := fun W B1 l1 l2 g1 g2 h1 h2 e1 e2 hB k1 k2 k3 k4 =>
    eqObject_yes W B1 W.heap.size (some ⟨g1, 0, none⟩) (some ⟨g2, 0, none⟩) (some ⟨h1, 0, none⟩) (some ⟨h2, 0, none⟩) n m n m n m l1 l2 ms (e1.trans e2.symm) (by rw [length_same e1, ← hn]) hm k1 k2 k3 k4 hB (Nat.le_refl _) hlen hlem (fun y hy => (fits_same e1 hl y hy).lens)
  have HLN := hidden hn
  have HLM := hidden hm
  unfold TookO at HTO
  unfold SizedO at HSZ
  clear h1 h2 hl hs hn hm hA hN hkn hkv hks hAw
  go_enter Try.func5, Try.ntmps5
  have hb0 : Below w.heap.size w (w.alloc (.cells #[.slice a1 n c1, .slice a2 m c2] 45)) := (Below.refl _ _).alloc (Nat.le_refl _) _
  have hx0 : Has (w.alloc (.cells #[.slice a1 n c1, .slice a2 m c2] 45)) w.heap.size 45 #[.slice a1 n c1, .slice a2 m c2] := Has.new _ _ _
  go_wp2_with fail
  refine (HSZ.out _ hb0).mono ?_
  clear HSZ
  rintro e w1 ⟨r, rfl, hb1, hr0, hr1, hr2⟩
  have hx1 := hx0.below hb1 hx0.lt
  have hB1 := hb0.trans (hb1.mono hb0.size)
  by_cases hneg : r < 0
  · clear hr2 hx0 hx1
    go_wp2_with fail
    go_ret
    exact ⟨rfl, hB1⟩
  obtain ⟨⟨q1, q2⟩, q3, _⟩ := hr2 (by omega)
  have hl1 : n ≤ 1048576 := by rw [HLN.out]; exact q1
  have hl2 : m ≤ 1048576 := by rw [HLM.out]; exact q3
  have HSH := hidden q2
  have x0 : World.cell? w1 ⟨w.heap.size, 0, none⟩ = some (.slice a1 n c1) := hx1.cell 0
  have x1 : World.cell? w1 ⟨w.heap.size, 1, none⟩ = some (.slice a2 m c2) := hx1.cell 1
  clear hr2 hx0 hb0 hb1 q1 q2 q3
  have HX1 := hidden hx1
  clear hx1
  go_wp2_with fail
  refine (HZK.out w1 hB1 r (by omega) hr1).mono ?_
  clear HZK
  rintro e _ ⟨r2, rfl, rfl, g1, g2, g3⟩
  by_cases hneg2 : r2 < 0
  · clear g3
    go_wp2_with fail
    go_ret
    exact ⟨rfl, hB1⟩
  have hl3 : nk ≤ 1048576 := by have := (g3 (by omega)).1; rw [HKN.out]; omega
  clear g3
  -- the model's answer
  go_wp2_with fail
  refine (HTO.out w1 hB1 hl1 hl2 HSH.out).mono ?_
  rintro e w2 ⟨l2, f1, f2, he2, rfl, hi2, hf2, hb2, -, -, -⟩
  have hB2 := hB1.trans (hb2.mono hB1.size)
  have hx2 := HX1.out.below hb2 HX1.out.lt
  have HI2 := hidden hi2
  have HF2 := hidden hf2
  clear x0 x1 hi2 hf2 hb2 hB1 HX1
  go_wp2_with fail
  refine (HTS.out w2 hB2 hl3).mono ?_
  rintro e w2b ⟨rfl, hkb, hb2b⟩
  obtain ⟨kb, hkbe⟩ : ∃ q, w2.heap.size = q := ⟨_, rfl⟩
  have HS2 := hidden (HSP.out w2b l2 f1 f2 he2 ((HI2.out.below hb2b).more hb2b.size) ((HF2.out.below hb2b).more hb2b.size) _ hkb)
  have hB2 := hB2.trans (hb2b.mono hB2.size)
  have hx2 := hx2.below hb2b hx2.lt
  rw [hkbe] at HS2 ⊢
  clear hkb hb2b hkbe HI2 HF2 HSP he2
  go_wp2_with fail
  refine HS2.out.mono ?_
  clear HS2
  rintro e w3 ⟨e1, d1, rfl, -, hOW, hb3⟩
  have hB3 := hB2.trans (hb3.mono hB2.size)
  have hx3 := hx2.below hb3 hx2.lt
  -- what stays of the time up to the model's answer
  have HBX : Hid (∀ W, Below w3.heap.size w3 W → Below w.heap.size w W ∧ Has W w.heap.size 45 #[.slice a1 n c1, .slice a2 m c2]) := fun W hW => ⟨hB3.trans (hW.mono hB3.size), hx3.below hW hx3.lt⟩
  have HEQ : Hid (∀ (W : World) (p1 : Option Addr) (z1 lo' : Nat), W.ownsRow lo' 3 1 (.slice p1 N z1) N (A.map (Value.int .i64)) → Below w3.heap.size w3 W → Calls Try.prog 23 #[.slice p1 N z1, .slice e1 N d1] W fun e w' => e = .returned (.bool true) ∧ ∃ n, w' = W.drewN n) := fun W p1 z1 lo' hg hb => by
    have := eqIntS_yes W W.heap.size w3.heap.size p1 e1 z1 d1 A (own_ints hg HNE.out HAW.out) ((own_ints hOW HNE.out HAW.out).below hb) (by rw [HNE.out]; omega)
    rwa [HNE.out] at this
  obtain ⟨hbw3, hbox3⟩ := HBX.out w3 (Below.refl _ _)
  have x0 : w3.cell? ⟨w.heap.size, 0, none⟩ = some (.slice a1 n c1) := hbox3.cell 0
  have x1 : w3.cell? ⟨w.heap.size, 1, none⟩ = some (.slice a2 m c2) := hbox3.cell 1
  have HT3 := hidden (HTO.out w3 hbw3 hl1 hl2 HSH.out)
  clear hx2 hB2 hB3 hx3 hb3 hOW hbw3 hbox3
  -- the program's argument
  go_wp2_with fail
  refine HT3.out.mono ?_
  clear HT3
  rintro e w4 ⟨l4, k1, k2, he4, rfl, hi4, hf4, hb4, hlk1, hlk2, hfar4, ⟨cs4, hcs4, hfx4⟩, ⟨cm4, hcm4, hcm4s⟩⟩
  have hX5 : Has (w4.alloc (.cells #[.slice (some ⟨k1, 0, none⟩) n n, .slice (some ⟨k2, 0, none⟩) m m] 26)) w4.heap.size 26 #[.slice (some ⟨k1, 0, none⟩) n n, .slice (some ⟨k2, 0, none⟩) m m] := Has.new _ _ _
  have hbA : Below w4.heap.size w4 (w4.alloc (.cells #[.slice (some ⟨k1, 0, none⟩) n n, .slice (some ⟨k2, 0, none⟩) m m] 26)) := (Below.refl _ _).alloc (Nat.le_refl _) _
  have s4 : (w4.alloc (.cells #[.slice (some ⟨k1, 0, none⟩) n n, .slice (some ⟨k2, 0, none⟩) m m] 26)).heap.size = w4.heap.size + 1 := by simp
  have hi4a : Sects (w4.alloc (.cells #[.slice (some ⟨k1, 0, none⟩) n n, .slice (some ⟨k2, 0, none⟩) m m] 26)) (w4.alloc (.cells #[.slice (some ⟨k1, 0, none⟩) n n, .slice (some ⟨k2, 0, none⟩) m m] 26)).heap.size (some ⟨k1, 0, none⟩) l4 := (hi4.alloc (Nat.le_refl _) _).more (by simp)
  have hf4a : Syms (w4.alloc (.cells #[.slice (some ⟨k1, 0, none⟩) n n, .slice (some ⟨k2, 0, none⟩) m m] 26)) (w4.alloc (.cells #[.slice (some ⟨k1, 0, none⟩) n n, .slice (some ⟨k2, 0, none⟩) m m] 26)).heap.size (some ⟨k2, 0, none⟩) ms := (hf4.alloc (Nat.le_refl _) _).more (by simp)
  obtain ⟨W4, hW4⟩ : ∃ q, w4.alloc (.cells #[.slice (some ⟨k1, 0, none⟩) n n, .slice (some ⟨k2, 0, none⟩) m m] 26) = q := ⟨_, rfl⟩
  obtain ⟨q5, hq5⟩ : ∃ q, w4.heap.size = q := ⟨_, rfl⟩
  rw [hW4] at hi4a hf4a hbA
  rw [hW4, hq5] at s4 hX5
  have HE4 := hidden he4
  have HB4 := hidden (hb4.trans (hbA.mono hb4.size))
  have HBT4 := hidden (HTS.out W4 (HBX.out W4 HB4.out).1 hl3)
  have HX5 := hidden hX5
  have HAA := hidden hbA
  have HFAR := hidden hfar4
  have HCS := hidden hcs4
  have HFX := hidden hfx4
  have HCM := hidden hcm4
  have HCMS := hidden hcm4s
  have HIX := hidden hi4a
  have HFXS := hidden hf4a
  have HLK := hidden (And.intro hlk1 hlk2)
  have HW4 := hidden hW4
  have HQ5 := hidden hq5
  have S4 := hidden s4
  have HSW4 : Hid (w3.heap.size ≤ w4.heap.size) := hb4.size
  clear x0 x1 hi4 hf4 hb4 he4 hi4a hf4a hX5 s4 hfar4 hcs4 hfx4 hcm4 hcm4s hbA hW4 hq5 hlk1 hlk2
  go_upto_region 10 with fail
  rw [HW4.out, HQ5.out]
  clear HW4
  go_wp2_with fail
  refine HBT4.out.mono ?_
  clear HBT4
  rintro e V4 ⟨rfl, hkb, hbV⟩
  obtain ⟨kb, hkbe⟩ : ∃ q, W4.heap.size = q := ⟨_, rfl⟩
  rw [hkbe] at hkb ⊢
  have HKB : Hid (W4.heap.size = kb) := hkbe
  have HVS : Hid (W4.heap.size ≤ V4.heap.size) := hbV.size
  have HB4 := hidden (HB4.out.trans (hbV.mono HB4.out.size))
  have HX5 := hidden (HX5.out.below hbV HX5.out.lt)
  have HAA := hidden (HAA.out.trans (hbV.mono HAA.out.size))
  have HIX := hidden ((HIX.out.below hbV).more hbV.size)
  have HFXS := hidden ((HFXS.out.below hbV).more hbV.size)
  have HI4 := hidden (HIM.out V4 l4 k1 k2 HE4.out HIX.out HFXS.out kb hkb)
  have HKH := hidden hkb
  have hHKlt : kb < V4.heap.size := hkb.lt
  have y0 : V4.cell? ⟨q5, 0, none⟩ = some (.slice (some ⟨k1, 0, none⟩) n n) := HX5.out.cell 0
  have y1 : V4.cell? ⟨q5, 1, none⟩ = some (.slice (some ⟨k2, 0, none⟩) m m) := HX5.out.cell 1
  clear hkb hbV hkbe
  go_wp2_with fail
  refine HI4.out.mono ?_
  clear HI4 y0 y1
  rintro e W5 ⟨p1, z1, rfl, -, hO, hbb⟩
  have HO5 := hidden hO
  have HX55 := hidden (HX5.out.below hbb HX5.out.lt)
  have HK5 := hidden (HKH.out.below hbb HKH.out.lt)
  have HB5 := hidden (HB4.out.trans (hbb.mono HB4.out.size))
  have HA5 := hidden (HAA.out.trans (hbb.mono HAA.out.size))
  have HI5 := hidden (HIX.out.below hbb)
  have HF5 := hidden (HFXS.out.below hbb)
  have HS5 : Hid (V4.heap.size ≤ W5.heap.size) := hbb.size
  have HE1 := hidden (HEQ.out W5 p1 z1 V4.heap.size HO5.out HB5.out)
  clear hbb hO HX5 HB4 HAA HIX HFXS HKH
  go_wp2_with fail
  refine HE1.out.mono ?_
  clear HE1
  rintro e _ ⟨rfl, zz, rfl⟩
  obtain ⟨w6, hw6⟩ : ∃ q, W5.drewN zz = q := ⟨_, rfl⟩
  have hb6 : Below W5.heap.size W5 w6 := by rw [← hw6]; exact below_drewN (Below.refl _ _) zz
  rw [hw6]
  have HO6 := hidden (HO5.out.kept (grown_only hb6) (Classical.em _))
  have HX56 := hidden (HX55.out.below hb6 HX55.out.lt)
  have HK6 := hidden (HK5.out.below hb6 HK5.out.lt)
  have HB6 := hidden (HB5.out.trans (hb6.mono HB5.out.size))
  have HA6 := hidden (HA5.out.trans (hb6.mono HA5.out.size))
  have HI6 := hidden (HI5.out.below (hb6.mono HS5.out))
  have HF6 := hidden (HF5.out.below (hb6.mono HS5.out))
  have HS6 : Hid (V4.heap.size ≤ w6.heap.size) := Nat.le_trans HS5.out hb6.size
  clear hb6 hw6 HK5 HO5 HX55 HB5 HA5 HI5 HF5 HS5
  have x0 : World.cell? w6 ⟨w.heap.size, 0, none⟩ = some (.slice a1 n c1) := (HBX.out w6 HB6.out).2.cell 0
  have x1 : World.cell? w6 ⟨w.heap.size, 1, none⟩ = some (.slice a2 m c2) := (HBX.out w6 HB6.out).2.cell 1
  have y0 : World.cell? w6 ⟨q5, 0, none⟩ = some (.slice (some ⟨k1, 0, none⟩) n n) := HX56.out.cell 0
  have y1 : World.cell? w6 ⟨q5, 1, none⟩ = some (.slice (some ⟨k2, 0, none⟩) m m) := HX56.out.cell 1
  have hB6d : Below w.heap.size w w6.drew := (HBX.out w6 HB6.out).1.drew
  have HTD := hidden (HTO.out w6.drew hB6d hl1 hl2 HSH.out)
  have HYD : Hid (Has w6.drew q5 26 #[.slice (some ⟨k1, 0, none⟩) n n, .slice (some ⟨k2, 0, none⟩) m m]) := HX56.out
  have HID : Hid (Sects w6.drew V4.heap.size (some ⟨k1, 0, none⟩) l4) := HI6.out.drewN 1
  have HFD : Hid (Syms w6.drew V4.heap.size (some ⟨k2, 0, none⟩) ms) := HF6.out.drewN 1
  have HSD : Hid (V4.heap.size ≤ w6.drew.heap.size) := HS6.out
  go_upto_region 14 with fail
  go_cut [44] from 40 (fun v wx => v = .bool false ∧ Hid (Below w6.heap.size w6 wx))
  case first =>
    go_region_with (first
      | (go_at_call 21; refine HTD.out.mono ?_; rintro e w7 ⟨l7, h1, h2, he7, rfl, hi7, hf7, hb7, -, -, -⟩;
         have HB7 := hidden hb7; have HI7 := hidden hi7; have HF7 := hidden hf7; have HE7 := hidden he7; have hy7 := HYD.out.below hb7 HYD.out.lt; clear hi7 hf7 hb7 he7;
         have v0 := hy7.cell 0; have v1 := hy7.cell 1;
         simp only [List.getElem?_toArray, List.getElem?_cons_zero, List.getElem?_cons_succ] at v0 v1; clear hy7)
      | (go_at_call 24; refine (HEX.out _ _ l4 l7 k1 k2 _ _ HE4.out HE7.out (Nat.le_trans HSD.out HB7.out.size) (HID.out.below (HB7.out.mono HSD.out)) (HFD.out.below (HB7.out.mono HSD.out)) HI7.out HF7.out).mono ?_; rintro e w8 ⟨rfl, hb8⟩))
    all_goals
      have hB8 : Below w6.heap.size w6 w8 := ((Below.refl _ _).drew.trans HB7.out).trans (hb8.mono HB7.out.size)
      clear hb8
      go_wp2_with fail
      go_meet
      exact ⟨rfl, hB8⟩
  case rest =>
    obtain ⟨rfl, hbc⟩ := hcut
    have HOc := hidden (HO6.out.kept (grown_only hbc.out) (Classical.em _))
    have HX5c := hidden (HX56.out.below hbc.out HX56.out.lt)
    have HBc := hidden (HB6.out.trans (hbc.out.mono HB6.out.size))
    have HAc := hidden (HA6.out.trans (hbc.out.mono HA6.out.size))
    have HKc := hidden (HK6.out.below hbc.out HK6.out.lt)
    have HSc : Hid (V4.heap.size ≤ wc.heap.size) := Nat.le_trans HS6.out hbc.out.size
    clear HTD HYD HID HFD HSD hB6d x0 x1 y0 y1 HO6 HX56 HB6 HA6 HI6 HF6 HS6 hbc HEX HK6
    go_wp2_with fail
    refine (HTS.out wc (HBX.out wc HBc.out).1 hl3).mono ?_
    rintro e we ⟨rfl, hke, hbe⟩
    have HEK := hidden (eqStringS_yes we we.heap.size we.heap.size (some ⟨kb, 0, none⟩) (some ⟨wc.heap.size, 0, none⟩) nk nk nk K HKN.out (vals_has (HKc.out.below hbe HKc.out.lt)) (vals_has hke) (by omega))
    have HOe := hidden (HOc.out.kept (grown_only hbe) (Classical.em _))
    have HX5e := hidden (HX5c.out.below hbe HX5c.out.lt)
    have HBe := hidden (HBc.out.trans (hbe.mono HBc.out.size))
    have HAe := hidden (HAc.out.trans (hbe.mono HAc.out.size))
    have HKe := hidden (HKc.out.below hbe HKc.out.lt)
    have HSe : Hid (V4.heap.size ≤ we.heap.size) := Nat.le_trans HSc.out hbe.size
    clear hke hbe HOc HX5c HBc HAc HKc HSc
    go_wp2_with fail
    refine HEK.out.mono ?_
    clear HEK
    rintro e _ ⟨rfl, z, rfl⟩
    obtain ⟨wf, hwf⟩ : ∃ q, we.drewN z = q := ⟨_, rfl⟩
    have hbf : Below we.heap.size we wf := by rw [← hwf]; exact below_drewN (Below.refl _ _) z
    rw [hwf]
    have HOc := hidden (HOe.out.kept (grown_only hbf) (Classical.em _))
    have HX5c := hidden (HX5e.out.below hbf HX5e.out.lt)
    have HBc := hidden (HBe.out.trans (hbf.mono HBe.out.size))
    have HAc := hidden (HAe.out.trans (hbf.mono HAe.out.size))
    have HKc := hidden (HKe.out.below hbf HKe.out.lt)
    have HSc : Hid (V4.heap.size ≤ wf.heap.size) := Nat.le_trans HSe.out hbf.size
    clear hwf hbf HOe HX5e HBe HAe HKe HSe
    have y0 : World.cell? wf ⟨q5, 0, none⟩ = some (.slice (some ⟨k1, 0, none⟩) n n) := HX5c.out.cell 0
    have y1 : World.cell? wf ⟨q5, 1, none⟩ = some (.slice (some ⟨k2, 0, none⟩) m m) := HX5c.out.cell 1
    have HMK := hidden (markObject_mkB wf w3.heap.size w4.heap.size k1 k2 n m n m l4 cs4 cm4 1 (by rw [length_same HE4.out]; exact HLN.out) (HCS.out.below HAc.out HCS.out.lt) HFX.out.keptX HLK.out.1 HCS.out.lt (fun y hy => (HFAR.out y hy).below HAc.out)
      (fun y hy b hb => by
        obtain ⟨b1, b2, ha1, ha2, _, _, _, _, ⟨cb, k1, _⟩, ⟨cf, k2, _⟩⟩ := HFAR.out y hy
        rcases hb with hb | hb
        · rw [ha1] at hb; injection hb with hb; injection hb with e1; rw [← e1]; exact k1.lt
        · rw [ha2] at hb; injection hb with hb; injection hb with e1; rw [← e1]; exact k2.lt)
      (fun y hy => by
        have hm : y.s ∈ l.map Sp.s := by rw [← HE4.out]; exact List.mem_map_of_mem hy
        obtain ⟨z, hz, e⟩ := List.mem_map.1 hm
        rw [← e]; exact HSH.out z hz)
      (HCM.out.below HAc.out HCM.out.lt) HCMS.out (Nat.le_trans HLK.out.1 (Nat.le_of_lt HLK.out.2)) HCM.out.lt hl1 hl2 (by omega) (by omega) HAc.out.size)
    go_wp2_with fail
    refine HMK.out.mono ?_
    clear HMK y0 y1
    rintro e w7 ⟨r7, rfl, r70, r71, hmk⟩
    have s4 := S4.out
    have sw := HSW4.out
    have e5 := HQ5.out
    have hvs := HVS.out
    have hkb := HKB.out
    have HO7 := hidden (own_mk HOc.out hmk (by omega))
    have HB7 := hidden (hmk.belowK HBc.out (by omega) HBc.out.size)
    have HK7 := hidden (HKc.out.mkK hmk (.inr (by omega)))
    have HS7 : Hid (V4.heap.size ≤ w7.heap.size) := Nat.le_trans HSc.out hmk.size
    have HMS := hidden (markStringS_full w7 kb nk nk _ r7 HK7.out (texts_has HKN.out) (by omega) (by omega))
    have hw4 : w3.heap.size ≤ kb := by omega
    have HKV : Hid (kb < V4.heap.size) := hHKlt
    clear HOc HX5c HBc HAc HKc hmk HFAR HCS HFX HCM HCMS s4 sw e5 hvs hkb HSc
    go_wp2_with fail
    refine HMS.out.mono ?_
    clear HMS
    rintro e w8 ⟨rfl, -, hgr8⟩
    have HO8 := hidden (World.ownsRow.kept HO7.out hgr8 (row_high HO7.out HKV.out))
    have HB8 := hidden (HB7.out.grown hgr8 HB7.out.size (fun q hq => by injection hq with hq; omega))
    have HS8 : Hid (V4.heap.size ≤ w8.heap.size) := Nat.le_trans HS7.out hgr8.size
    have HE7 := hidden (HEQ.out w8 p1 z1 V4.heap.size HO8.out HB8.out)
    obtain ⟨r8, hr8⟩ : ∃ q : Int, r7 + (nk : Int) = q := ⟨_, rfl⟩
    have hr80 : ¬ r8 < 0 := by omega
    have hr81 : decide (r8 < 0) = false := by simp [hr80]
    rw [hr8]
    clear HO7 HB7 HK7 hgr8 hr8 r70 r71 HS7
    go_wp2_with fail
    refine HE7.out.mono ?_
    clear HE7 hr80 hr81
    rintro e _ ⟨rfl, zy, rfl⟩
    obtain ⟨w9, hw9⟩ : ∃ q, w8.drewN zy = q := ⟨_, rfl⟩
    have hb9 : Below w8.heap.size w8 w9 := by rw [← hw9]; exact below_drewN (Below.refl _ _) zy
    rw [hw9]
    have HO9 := hidden (HO8.out.kept (grown_only hb9) (Classical.em _))
    have HB9 := hidden (HB8.out.trans (hb9.mono HB8.out.size))
    obtain ⟨g, hgl, hga⟩ := own_blockI HO9.out (Nat.le_trans HS8.out hb9.size)
    have hlow : w3.heap.size ≤ V4.heap.size := by have := S4.out; have := HSW4.out; have := HQ5.out; have := HVS.out; omega
    have HGL : Hid (w3.heap.size ≤ g) := Nat.le_trans hlow hgl
    have HK9 := hidden (markI_wide w9 g N z1 p1 1 hga (by omega) (by omega))
    obtain ⟨R, hR⟩ : ∃ R : Int, (1 : Int) + (N : Nat) = R := ⟨_, rfl⟩
    have hR0 : 0 ≤ R := by omega
    have hga1 : 0 < N → p1 = some ⟨g, 0, none⟩ := fun h => (hga h).1
    have HH9 : Hid (∀ W, (0 < N → ∃ c, Has W g 3 c ∧ ∀ j, j < N → c[j]? = some (.int .i64 ((1 : Int) + (j : Nat)))) → Calls Try.prog 29 #[.slice p1 N z1, .int .i64 1] W fun e w' => e = .returned (.int .i64 R) ∧ W = w') := fun W hW => by
      have := heldI_wide W g N z1 p1 1 (fun h => by
        obtain ⟨c, hc1, hc2⟩ := hW h
        exact ⟨hga1 h, fun j hj => by rw [hc1.cell]; exact hc2 j hj⟩) (by omega) (by omega)
      rwa [hR] at this
    rw [hR] at HK9
    clear hb9 hw9 HO8 HO9 HB8 hR hga hgl hlow hga1 HS8
    go_wp2_with fail
    refine HK9.out.mono ?_
    clear HK9
    rintro e w10 ⟨rfl, hmk, hb10⟩
    have HB10 := hidden (HB9.out.grown hb10 HB9.out.size (fun q hq => by injection hq with hq; have := HGL.out; omega))
    have HK10 : Hid (0 < N → ∃ c, Has w10 g 3 c ∧ ∀ j, j < N → c[j]? = some (.int .i64 ((1 : Int) + (j : Nat)))) := hmk
    have HQ10 := hidden (HH9.out w10 hmk)
    have hR1 : ¬ R < 0 := by omega
    clear hmk hb10 HB9
    go_wp2_with fail
    refine HQ10.out.mono ?_
    clear HQ10
    rintro e _ ⟨rfl, rfl⟩
    obtain ⟨hbw11, hbox11⟩ := HBX.out w10 HB10.out
    have x0 : w10.cell? ⟨w.heap.size, 0, none⟩ = some (.slice a1 n c1) := hbox11.cell 0
    have x1 : w10.cell? ⟨w.heap.size, 1, none⟩ = some (.slice a2 m c2) := hbox11.cell 1
    have HT11 := hidden (HTO.out w10 hbw11 hl1 hl2 HSH.out)
    clear hbw11 hbox11 HTO
    go_wp2_with fail
    refine HT11.out.mono ?_
    clear HT11 x0 x1
    rintro e w12 ⟨l7, f3, f4, he7, rfl, hi7, hf7, hb12, -, -, -⟩
    have HI7 := hidden hi7
    have HF7 := hidden hf7
    have HB12 := hidden (HB10.out.trans (hb12.mono HB10.out.size))
    have HT12 := hidden (HTS.out w12 (HBX.out w12 HB12.out).1 hl3)
    have HK12 : Hid (0 < N → ∃ c, Has w12 g 3 c ∧ ∀ j, j < N → c[j]? = some (.int .i64 ((1 : Int) + (j : Nat)))) := fun h => by
      obtain ⟨c, hc1, hc2⟩ := HK10.out h
      exact ⟨c, hc1.below hb12 hc1.lt, hc2⟩
    clear hb12 HK10 HB10 hi7 hf7 HTS
    go_wp2_with fail
    refine HT12.out.mono ?_
    clear HT12
    rintro e v12 ⟨rfl, hkf, hbf⟩
    obtain ⟨kf, hkfe⟩ : ∃ q, w12.heap.size = q := ⟨_, rfl⟩
    have HI12 := hidden (HIM.out v12 l7 f3 f4 he7 ((HI7.out.below hbf).more hbf.size) ((HF7.out.below hbf).more hbf.size) _ hkf)
    have HK13 : Hid (0 < N → ∃ c, Has v12 g 3 c ∧ ∀ j, j < N → c[j]? = some (.int .i64 ((1 : Int) + (j : Nat)))) := fun h => by
      obtain ⟨c, hc1, hc2⟩ := HK12.out h
      exact ⟨c, hc1.below hbf hc1.lt, hc2⟩
    have HB13 := hidden (HB12.out.trans (hbf.mono HB12.out.size))
    rw [hkfe] at HI12 ⊢
    clear hbf hkf hkfe HI7 HF7 he7 HIM HK12 HB12
    go_wp2_with fail
    refine HI12.out.mono ?_
    clear HI12
    rintro e w13 ⟨v1, z3, rfl, -, ho, hb13⟩
    have HK14 : Hid (0 < N → ∃ c, Has w13 g 3 c ∧ ∀ j, j < N → c[j]? = some (.int .i64 ((1 : Int) + (j : Nat)))) := fun h => by
      obtain ⟨c, hc1, hc2⟩ := HK13.out h
      exact ⟨c, hc1.below hb13 hc1.lt, hc2⟩
    have HB14 := hidden (HB13.out.trans (hb13.mono HB13.out.size))
    have HE13 := hidden (HEQ.out w13 v1 z3 v12.heap.size ho HB14.out)
    clear hb13 ho HK13 HB13
    go_wp2_with fail
    refine HE13.out.mono ?_
    clear HE13
    rintro e _ ⟨rfl, zx, rfl⟩
    have HQ14 := hidden (HH9.out (w13.drewN zx) (fun h => by
      obtain ⟨c, hc1, hc2⟩ := HK14.out h
      exact ⟨c, hc1.drewN zx, hc2⟩))
    have HFIN : Hid (Below w.heap.size w (w13.drewN zx)) := below_drewN (HBX.out w13 HB14.out).1 zx
    clear HK14 HH9 HEQ HB14
    go_wp2_with fail
    refine HQ14.out.mono ?_
    clear HQ14
    rintro e _ ⟨rfl, rfl⟩
    go_wp2_with fail
    go_ret
    exact ⟨rfl, HFIN.out⟩

end Go.Proofs.Ytdjpihbhnncahaa

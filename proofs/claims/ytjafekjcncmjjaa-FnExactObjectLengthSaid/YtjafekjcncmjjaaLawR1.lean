/-
  What is wanted of the program's functions of chapter 6, and the walk of FnExactObjectLength over it.
-/
import Derived.Test.YtjafekjcncmjjaaWrP
import Derived.Test.YtjafekjcncmjjaaWrL
import Derived.Test.YtjafekjcncmjjaaWant4
import Derived.Deep.RegionWith
namespace Go.Proofs.Ytjafekjcncmjjaa
open Go.RowKit

theorem manyFix_same {l l' : List Sp} (h : l'.map Sp.s = l.map Sp.s) : manyFix l' = manyFix l := by
  have e : ∀ q : List Sp, manyFix q = ((q.map Sp.s).map fun s => s.fixs.length).sum := fun q => by unfold manyFix; rw [List.map_map]; rfl
  rw [e, e, h]
theorem manyBytes_same {l l' : List Sp} (h : l'.map Sp.s = l.map Sp.s) : manyBytes l' = manyBytes l := by
  have e : ∀ q : List Sp, manyBytes q = ((q.map Sp.s).map fun s => s.bytes.length).sum := fun q => by unfold manyBytes; rw [List.map_map]; rfl
  rw [e, e, h]
theorem allNames_same {l l' : List Sp} (h : l'.map Sp.s = l.map Sp.s) (ms : List Sm) : allNames l' ms = allNames l ms := by
  have e : ∀ q : List Sp, allNames q ms = ((q.map Sp.s).map fun s => s.name) ++ ms.map Sm.name := fun q => by unfold allNames; rw [List.map_map]; rfl
  rw [e, e, h]
theorem objLen_same {l l' : List Sp} (h : l'.map Sp.s = l.map Sp.s) {ms : List Sm} : objLen l' ms = objLen l ms := by
  unfold objLen
  rw [h, manyFix_same h, manyBytes_same h, allNames_same h, length_same h]
set_option maxHeartbeats 1000000 in
theorem law_ExactObjectLength (hW : WantObjectLength) (w : World) (a1 a2 : Option Addr) (c1 c2 n m : Nat) (l : List Sp) (ms : List Sm) (hn : n = l.length) (hm : m = ms.length) (h1 : Sects w w.heap.size a1 l) (h2 : Syms w w.heap.size a2 ms) (hlen : n ≤ 9223372036854775807) (hlem : m ≤ 9223372036854775807)
    (hl : ∀ y ∈ l, y.s.fits) (hs : ∀ x ∈ ms, x.fits) :
    Calls Try.prog 4 #[.agg #[.slice a1 n c1, .slice a2 m c2]] w fun e w' => e = .returned (.bool true) ∧ Below w.heap.size w w' := by
  have HSZ := hidden (fun (W : World) (hB : Below w.heap.size w W) => szObject_any W w.heap.size a1 a2 c1 c2 n m l ms hn hm (h1.below hB) (h2.below hB) hB.size hlen hlem (fun y hy => (hl y hy).lens) (fun x hx => (hs x hx).name) 1048576 (by omega) (by omega))
  have HTO := hidden (fun (W : World) (hB : Below w.heap.size w W) (k1 : n ≤ 1048576) (k2 : m ≤ 1048576) (k3 : ∀ y ∈ l, y.s.short) => toObject_any W w.heap.size a1 a2 c1 c2 n m l ms hn hm (h1.below hB) (h2.below hB) hB.size k1 k2 k3)
  obtain ⟨rs, hres⟩ : ∃ r : Int, (objLen l ms : Int) = r := ⟨_, rfl⟩
  have HIM : Hid (∀ (W : World) (l' : List Sp) (g1 g2 : Nat), l'.map Sp.s = l.map Sp.s → Sects W W.heap.size (some ⟨g1, 0, none⟩) l' → Syms W W.heap.size (some ⟨g2, 0, none⟩) ms →
      Calls Try.prog 6 #[.agg #[.slice (some ⟨g1, 0, none⟩) n n, .slice (some ⟨g2, 0, none⟩) m m]] W fun e w' => e = .returned (.int .i64 rs) ∧ Below W.heap.size W w') := fun W l' g1 g2 he k1 k2 => by
    have := hW W W.heap.size (some ⟨g1, 0, none⟩) (some ⟨g2, 0, none⟩) n m l' ms k1 k2 (Nat.le_refl _) (by rw [length_same he, ← hn]; exact hlen) (by rw [← hm]; exact hlem) (fits_same he hl) hs
    rwa [length_same he, ← hn, ← hm, objLen_same he, hres] at this
  have HSP : Hid (∀ (W : World) (l' : List Sp) (g1 g2 : Nat), l'.map Sp.s = l.map Sp.s → Sects W W.heap.size (some ⟨g1, 0, none⟩) l' → Syms W W.heap.size (some ⟨g2, 0, none⟩) ms →
      Calls Try.prog 7 #[.agg #[.slice (some ⟨g1, 0, none⟩) n n, .slice (some ⟨g2, 0, none⟩) m m]] W fun e w' => e = .returned (.int .i64 rs) ∧ Below W.heap.size W w') := fun W l' g1 g2 he k1 k2 => by
    have := objectLength'_any W W.heap.size (some ⟨g1, 0, none⟩) (some ⟨g2, 0, none⟩) n m n m l' ms (by rw [length_same he, ← hn]) hm k1 k2 (Nat.le_refl _) hlen hlem (fun y hy => (fits_same he hl y hy).lens) (fun x hx => (hs x hx).name)
    rwa [objLen_same he, hres] at this
  have HEQ : Hid (∀ (W : World) (B1 : Nat) (l1 l2 : List Sp) (g1 g2 h1 h2 : Nat), l1.map Sp.s = l.map Sp.s → l2.map Sp.s = l.map Sp.s → B1 ≤ W.heap.size → Sects W B1 (some ⟨g1, 0, none⟩) l1 → Syms W B1 (some ⟨g2, 0, none⟩) ms → Sects W W.heap.size (some ⟨h1, 0, none⟩) l2 → Syms W W.heap.size (some ⟨h2, 0, none⟩) ms →
      Calls Try.prog 12 #[.agg #[.slice (some ⟨g1, 0, none⟩) n n, .slice (some ⟨g2, 0, none⟩) m m], .agg #[.slice (some ⟨h1, 0, none⟩) n n, .slice (some ⟨h2, 0, none⟩) m m]] W fun e w' => e = .returned (.bool true) ∧ Below W.heap.size W w') := fun W B1 l1 l2 g1 g2 h1 h2 e1 e2 hB k1 k2 k3 k4 =>
    eqObject_yes W B1 W.heap.size (some ⟨g1, 0, none⟩) (some ⟨g2, 0, none⟩) (some ⟨h1, 0, none⟩) (some ⟨h2, 0, none⟩) n m n m n m l1 l2 ms (e1.trans e2.symm) (by rw [length_same e1, ← hn]) hm k1 k2 k3 k4 hB (Nat.le_refl _) hlen hlem (fun y hy => (fits_same e1 hl y hy).lens)
  have HLN := hidden hn
  have HLM := hidden hm
  unfold TookO at HTO
  unfold SizedO at HSZ
  clear h1 h2 hl hs hW hn hm hres
  go_enter Try.func4, Try.ntmps4
  have hb0 : Below w.heap.size w (w.alloc (.cells #[.slice a1 n c1, .slice a2 m c2] 35)) := (Below.refl _ _).alloc (Nat.le_refl _) _
  have hx0 : Has (w.alloc (.cells #[.slice a1 n c1, .slice a2 m c2] 35)) w.heap.size 35 #[.slice a1 n c1, .slice a2 m c2] := Has.new _ _ _
  go_wp2_with fail
  refine (HSZ.out _ hb0).mono ?_
  clear HSZ
  rintro e w1 ⟨r, rfl, hb1, hr0, hr1, hr2⟩
  have hx1 := hx0.below hb1 hx0.lt
  have hB1 := hb0.trans (hb1.mono hb0.size)
  by_cases hneg : r < 0
  · clear hr2 hx0 hx1
    go_wp2_with fail
    go_ret
    exact ⟨rfl, hB1⟩
  obtain ⟨⟨q1, q2⟩, q3, _⟩ := hr2 (by omega)
  have hl1 : n ≤ 1048576 := by rw [HLN.out]; exact q1
  have hl2 : m ≤ 1048576 := by rw [HLM.out]; exact q3
  have HSH := hidden q2
  have x0 : World.cell? w1 ⟨w.heap.size, 0, none⟩ = some (.slice a1 n c1) := hx1.cell 0
  have x1 : World.cell? w1 ⟨w.heap.size, 1, none⟩ = some (.slice a2 m c2) := hx1.cell 1
  clear hr2 hx0 hb0 hb1 q1 q2 q3
  have HX1 := hidden hx1
  clear hx1
  go_wp2_with fail
  refine (HTO.out w1 hB1 hl1 hl2 HSH.out).mono ?_
  rintro e w2 ⟨l2, f1, f2, he2, rfl, hi2, hf2, hb2, -, -, -⟩
  have hB2 := hB1.trans (hb2.mono hB1.size)
  have hx2 := HX1.out.below hb2 HX1.out.lt
  have HS2 := hidden (HSP.out w2 l2 f1 f2 he2 hi2 hf2)
  clear x0 x1 hi2 hf2 hb2 hB1 HX1 HSP
  go_wp2_with fail
  refine HS2.out.mono ?_
  clear HS2
  rintro e w3 ⟨rfl, hb3⟩
  have hB3 := hB2.trans (hb3.mono hB2.size)
  have hx3 := hx2.below hb3 hx2.lt
  have x0 : World.cell? w3 ⟨w.heap.size, 0, none⟩ = some (.slice a1 n c1) := hx3.cell 0
  have x1 : World.cell? w3 ⟨w.heap.size, 1, none⟩ = some (.slice a2 m c2) := hx3.cell 1
  have HX3 := hidden hx3
  clear hx2 hx3 hb3 hB2 he2
  go_wp2_with fail
  refine (HTO.out w3 hB3 hl1 hl2 HSH.out).mono ?_
  rintro e w4 ⟨l', g1, g2, he4, rfl, hi4, hf4, hb4, -, -, -⟩
  have HE4 := hidden he4
  have hB4 := hB3.trans (hb4.mono hB3.size)
  have hx4 := HX3.out.below hb4 HX3.out.lt
  have hB4a : Below w.heap.size w (w4.alloc (.cells #[.slice (some ⟨g1, 0, none⟩) n n, .slice (some ⟨g2, 0, none⟩) m m] 26)) := hB4.alloc hB4.size _
  have hx4a := hx4.alloc (.cells #[.slice (some ⟨g1, 0, none⟩) n n, .slice (some ⟨g2, 0, none⟩) m m] 26)
  have hy4a : Has (w4.alloc (.cells #[.slice (some ⟨g1, 0, none⟩) n n, .slice (some ⟨g2, 0, none⟩) m m] 26)) w4.heap.size 26 #[.slice (some ⟨g1, 0, none⟩) n n, .slice (some ⟨g2, 0, none⟩) m m] := Has.new _ _ _
  have s4 : w4.heap.size ≤ (w4.alloc (.cells #[.slice (some ⟨g1, 0, none⟩) n n, .slice (some ⟨g2, 0, none⟩) m m] 26)).heap.size := by simp
  have hi4a : Sects (w4.alloc (.cells #[.slice (some ⟨g1, 0, none⟩) n n, .slice (some ⟨g2, 0, none⟩) m m] 26)) (w4.alloc (.cells #[.slice (some ⟨g1, 0, none⟩) n n, .slice (some ⟨g2, 0, none⟩) m m] 26)).heap.size (some ⟨g1, 0, none⟩) l' := (hi4.alloc (Nat.le_refl _) _).more s4
  have hf4a : Syms (w4.alloc (.cells #[.slice (some ⟨g1, 0, none⟩) n n, .slice (some ⟨g2, 0, none⟩) m m] 26)) (w4.alloc (.cells #[.slice (some ⟨g1, 0, none⟩) n n, .slice (some ⟨g2, 0, none⟩) m m] 26)).heap.size (some ⟨g2, 0, none⟩) ms := (hf4.alloc (Nat.le_refl _) _).more s4
  have HI4 := hidden (HIM.out _ l' g1 g2 he4 hi4a hf4a)
  have HIA := hidden hi4a
  have HFA := hidden hf4a
  have HXA := hidden hx4a
  have HYA := hidden hy4a
  have HBA := hidden hB4a
  clear x0 x1 hi4 hf4 hb4 hB3 HX3 hx4 he4 hi4a hf4a hx4a hy4a hB4a s4 HIM hB4
  go_wp2_with fail
  refine HI4.out.mono ?_
  clear HI4
  rintro e w5 ⟨rfl, hb5⟩
  have hB5 := HBA.out.trans (hb5.mono HBA.out.size)
  have hx5 := HXA.out.below hb5 HXA.out.lt
  have hy5 := HYA.out.below hb5 HYA.out.lt
  have hi5 := (HIA.out.below hb5).more hb5.size
  have hf5 := (HFA.out.below hb5).more hb5.size
  have x0 : World.cell? w5 ⟨w.heap.size, 0, none⟩ = some (.slice a1 n c1) := hx5.cell 0
  have x1 : World.cell? w5 ⟨w.heap.size, 1, none⟩ = some (.slice a2 m c2) := hx5.cell 1
  have y0 : World.cell? w5 ⟨w4.heap.size, 0, none⟩ = some (.slice (some ⟨g1, 0, none⟩) n n) := hy5.cell 0
  have y1 : World.cell? w5 ⟨w4.heap.size, 1, none⟩ = some (.slice (some ⟨g2, 0, none⟩) m m) := hy5.cell 1
  have hrr : (rs != rs) = false := by simp
  have hB5d : Below w.heap.size w w5.drew := hB5.drew
  have HTD := hidden (HTO.out w5.drew hB5d hl1 hl2 HSH.out)
  have HY : Hid (Has w5.drew w4.heap.size 26 #[.slice (some ⟨g1, 0, none⟩) n n, .slice (some ⟨g2, 0, none⟩) m m]) := hy5
  have HI : Hid (Sects w5.drew w5.heap.size (some ⟨g1, 0, none⟩) l') := hi5.drewN 1
  have HFI : Hid (Syms w5.drew w5.heap.size (some ⟨g2, 0, none⟩) ms) := hf5.drewN 1
  clear hx5 hy5 hi5 hf5 HTO hl1 hl2 HXA HYA HIA HFA HBA hb5 hB5
  go_wp2_with fail
  go_region_with (first
    | (go_at_call 11; refine HTD.out.mono ?_; rintro e w6 ⟨l6, h1, h2, he6, rfl, hi6, hf6, hb6, -, -, -⟩;
       have HB6 := hidden hb6; have HI6 := hidden hi6; have HF6 := hidden hf6; have HE6 := hidden he6; have hy6 := HY.out.below hb6 HY.out.lt; clear hi6 hf6 hb6 he6;
       have v0 := hy6.cell 0; have v1 := hy6.cell 1;
       simp only [List.getElem?_toArray, List.getElem?_cons_zero, List.getElem?_cons_succ] at v0 v1; clear hy6)
    | (go_at_call 12; refine (HEQ.out _ _ l' l6 g1 g2 _ _ HE4.out HE6.out HB6.out.size (HI.out.below HB6.out) (HFI.out.below HB6.out) HI6.out HF6.out).mono ?_; rintro e w7 ⟨rfl, hb7⟩))
  all_goals
    have hB7 : Below w.heap.size w w7 := (hB5d.trans (HB6.out.mono hB5d.size)).trans (hb7.mono (hB5d.trans (HB6.out.mono hB5d.size)).size)
    clear hb7
    go_wp2_with fail
    go_ret
    exact ⟨rfl, hB7⟩

end Go.Proofs.Ytjafekjcncmjjaa

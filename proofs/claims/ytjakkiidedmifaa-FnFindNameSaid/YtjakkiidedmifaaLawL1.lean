/-
  The walk of FnExactObjectsValid.
-/
import Derived.Test.YtjakkiidedmifaaOpenL
namespace Go.Proofs.Ytjakkiidedmifaa
open Go.RowKit

theorem fitsO_same {l l' : List Oj} (h : l'.map Oj.o = l.map Oj.o) (hf : ∀ y ∈ l, y.fits) : ∀ y ∈ l', y.fits := fun y hy => by
  have hm : y.o ∈ l.map Oj.o := by rw [← h]; exact List.mem_map_of_mem hy
  obtain ⟨z, hz, e⟩ := List.mem_map.1 hm
  have e1 : z.l.map Sp.s = y.l.map Sp.s := congrArg Prod.fst e
  have e2 : z.ms = y.ms := congrArg Prod.snd e
  obtain ⟨q1, q2, q3, q4⟩ := hf z hz
  refine ⟨?_, by rw [← e2]; exact q2, fits_same e1.symm q3, by rw [← e2]; exact q4⟩
  have := congrArg List.length e1
  rw [List.length_map, List.length_map] at this
  omega
theorem lengthO_same {l l' : List Oj} (h : l'.map Oj.o = l.map Oj.o) : l'.length = l.length := by
  have := congrArg List.length h
  rwa [List.length_map, List.length_map] at this
set_option maxRecDepth 100000 in
set_option maxHeartbeats 4000000 in
theorem law_ExactObjectsValid (w : World) (a : Option Addr) (c n : Nat) (L : List Oj) (hn : n = L.length) (h : Objs w w.heap.size a L) (hlen : n ≤ 9223372036854775807) (hf : ∀ y ∈ L, y.fits) :
    Calls Try.prog 8 #[.slice a n c] w fun e w' => e = .returned (.bool true) ∧ Below w.heap.size w w' := by
  have hls : ∀ y ∈ L, y.lens := fun y hy => (hf y hy).lens
  have HSZ := hidden (szObjectS_any w w.heap.size a c n L hn h (Nat.le_refl _) hlen hls 1048576 (by omega) (by omega))
  have HTO := hidden (fun (W : World) (hB : Below w.heap.size w W) (k1 : n ≤ 1048576) (k2 : ∀ y ∈ L, y.short) => toObjectS_far W w.heap.size a c n L hn (h.below hB) hB.size k1 k2)
  obtain ⟨ok, hok⟩ : ∃ q, validA (L.map Oj.o) = q := ⟨_, rfl⟩
  have HSP : Hid (∀ (W : World) (L' : List Oj) (g : Nat), L'.map Oj.o = L.map Oj.o → Objs W W.heap.size (some ⟨g, 0, none⟩) L' → Calls Try.prog 20 #[.slice (some ⟨g, 0, none⟩) n n] W fun e w' => e = .returned (.bool ok) ∧ Below W.heap.size W w') := fun W L' g he hO => by
    have := objectsValid'_any W W.heap.size (some ⟨g, 0, none⟩) n n L' (by rw [lengthO_same he]; exact hn) hO (Nat.le_refl _) hlen (fun y hy => (fitsO_same he hf y hy).lens)
    rwa [he, hok] at this
  have HIM : Hid (∀ (W : World) (L' : List Oj) (g : Nat), L'.map Oj.o = L.map Oj.o → Objs W W.heap.size (some ⟨g, 0, none⟩) L' → Calls Try.prog 19 #[.slice (some ⟨g, 0, none⟩) n n] W fun e w' => e = .returned (.bool ok) ∧ Below W.heap.size W w') := fun W L' g he hO => by
    have := objectsValid_any W W.heap.size (some ⟨g, 0, none⟩) n n L' (by rw [lengthO_same he]; exact hn) hO (Nat.le_refl _) hlen (fitsO_same he hf)
    rwa [he, hok] at this
  have HEQ : Hid (∀ (W : World) (B1 : Nat) (L1 L2 : List Oj) (g1 g2 : Nat), L1.map Oj.o = L.map Oj.o → L2.map Oj.o = L.map Oj.o → B1 ≤ W.heap.size → Objs W B1 (some ⟨g1, 0, none⟩) L1 → Objs W W.heap.size (some ⟨g2, 0, none⟩) L2 → Calls Try.prog 33 #[.slice (some ⟨g1, 0, none⟩) n n, .slice (some ⟨g2, 0, none⟩) n n] W fun e w' => e = .returned (.bool true) ∧ Below W.heap.size W w') := fun W B1 L1 L2 g1 g2 e1 e2 hB h1 h2 =>
    eqObjectS_yes W B1 W.heap.size (some ⟨g1, 0, none⟩) (some ⟨g2, 0, none⟩) n n n L1 L2 (e1.trans e2.symm) (by rw [lengthO_same e1]; exact hn) h1 h2 hB (Nat.le_refl _) hlen (fun y hy => (fitsO_same e1 hf y hy).lens)
  have HN := hidden hn
  have hok1 : (ok == ok) = true := by simp
  have hok2 : (ok != ok) = false := by simp
  clear hn h hf hls hok
  go_enter Try.func8, Try.ntmps8
  go_wp2_with fail
  refine HSZ.out.mono ?_
  clear HSZ
  rintro e w1 ⟨r, rfl, hb1, hr0, hr1, hr2⟩
  by_cases hneg : r < 0
  · clear hr2
    go_wp2_with fail
    go_ret
    exact ⟨rfl, hb1⟩
  obtain ⟨q1, q2⟩ := hr2 (by omega)
  have hn1 : n ≤ 1048576 := by rw [HN.out]; exact q1
  have HSH := hidden q2
  have HT1 := hidden (HTO.out w1 hb1 hn1 q2)
  clear hr2 q1 q2
  go_wp2_with fail
  refine HT1.out.mono ?_
  clear HT1
  rintro e w2 ⟨L2, he2, rfl, hO2, hb2, -, -, -⟩
  obtain ⟨g2, hg2⟩ : ∃ q, w1.heap.size = q := ⟨_, rfl⟩
  have HS2 := hidden (HSP.out w2 L2 w1.heap.size he2 hO2)
  have HB2 := hidden (hb1.trans (hb2.mono hb1.size))
  rw [hg2] at HS2 ⊢
  clear hO2 he2 hb2 hg2 HSP hb1
  go_wp2_with fail
  refine HS2.out.mono ?_
  clear HS2
  rintro e w3 ⟨rfl, hb3⟩
  have HB3 := hidden (HB2.out.trans (hb3.mono HB2.out.size))
  have HT3 := hidden (HTO.out w3 HB3.out hn1 HSH.out)
  clear hb3 HB2
  go_wp2_with fail
  refine HT3.out.mono ?_
  clear HT3
  rintro e w4 ⟨L4, he4, rfl, hO4, hb4, -, -, -⟩
  obtain ⟨g4, hg4⟩ : ∃ q, w3.heap.size = q := ⟨_, rfl⟩
  have HI4 := hidden (HIM.out w4 L4 w3.heap.size he4 hO4)
  have HB4 := hidden (HB3.out.trans (hb4.mono HB3.out.size))
  rw [hg4] at HI4 hO4 ⊢
  have HO4 := hidden hO4
  have HE4 := hidden he4
  clear hO4 he4 hb4 hg4 HIM HB3
  go_wp2_with fail
  refine HI4.out.mono ?_
  clear HI4
  rintro e w5 ⟨rfl, hb5⟩
  have HB5 := hidden (HB4.out.trans (hb5.mono HB4.out.size))
  have HO5 := hidden (HO4.out.below hb5)
  have hs45 : w4.heap.size ≤ w5.heap.size := hb5.size
  have HT5 := hidden (HTO.out w5 HB5.out hn1 HSH.out)
  clear hb5 HO4 HB4 HTO
  go_wp2_with fail
  refine HT5.out.mono ?_
  clear HT5
  rintro e w6 ⟨L6, he6, rfl, hO6, hb6, -, -, -⟩
  have hs56 := hb6.size
  have HQ6 := hidden (HEQ.out w6 w4.heap.size L4 L6 g4 w5.heap.size HE4.out he6 (by omega) (HO5.out.below (hb6.mono hs45)) hO6)
  obtain ⟨g6, hg6⟩ : ∃ q, w5.heap.size = q := ⟨_, rfl⟩
  have HB6 := hidden (HB5.out.trans (hb6.mono HB5.out.size))
  rw [hg6] at HQ6 ⊢
  clear hO6 he6 hb6 hg6 HO5 HB5 HEQ hs45 hs56 HE4
  go_wp2_with fail
  refine HQ6.out.mono ?_
  clear HQ6
  rintro e w7 ⟨rfl, hb7⟩
  have HF := hidden (HB6.out.trans (hb7.mono HB6.out.size))
  clear hb7 HB6
  go_wp2_with fail
  go_ret
  exact ⟨rfl, HF.out⟩

end Go.Proofs.Ytjakkiidedmifaa

/-
  The walk of FnExactFindName.
-/
import Derived.Test.YtjakkiidedmifaaLawL1
import Derived.Test.YtjakkiidedmifaaLnkF
namespace Go.Proofs.Ytjakkiidedmifaa
open Go.RowKit

set_option maxRecDepth 100000 in
theorem eqGiven_yes (w : World) (i j : Int) :
    Calls Try.prog 34 #[.agg #[.int .i64 i, .int .i64 j], .agg #[.int .i64 i, .int .i64 j]] w fun e w' => e = .returned (.bool true) ∧ Below w.heap.size w w' := by
  have hb : Below w.heap.size w ((w.alloc (.cells #[.int .i64 i, .int .i64 j] 32)).alloc (.cells #[.int .i64 i, .int .i64 j] 32)) := ((Below.refl _ _).alloc (Nat.le_refl _) _).alloc (by simp) _
  go_enter Try.func34, Try.ntmps34
  go_wp2_with fail
  go_ret
  exact ⟨rfl, hb⟩
set_option maxRecDepth 100000 in
set_option maxHeartbeats 4000000 in
theorem law_ExactFindName (w : World) (a : Option Addr) (c n : Nat) (L : List Oj) (hn : n = L.length) (h : Objs w w.heap.size a L) (hlen : n ≤ 9223372036854775807) (hf : ∀ y ∈ L, y.fits) (s : ByteArray) (hs : s.size ≤ maxLen) :
    Calls Try.prog 9 #[.slice a n c, .string s] w fun e w' => e = .returned (.bool true) ∧ Below w.heap.size w w' := by
  have hls : ∀ y ∈ L, y.lens := fun y hy => (hf y hy).lens
  have HSZ := hidden (szObjectS_any w w.heap.size a c n L hn h (Nat.le_refl _) hlen hls 1048576 (by omega) (by omega))
  have HTO := hidden (fun (W : World) (hB : Below w.heap.size w W) (k1 : n ≤ 1048576) (k2 : ∀ y ∈ L, y.short) => toObjectS_far W w.heap.size a c n L hn (h.below hB) hB.size k1 k2)
  obtain ⟨U, hU⟩ : ∃ q, findA (L.map Oj.o) s = q := ⟨_, rfl⟩
  have HSP : Hid (∀ (W : World) (L' : List Oj) (g : Nat), L'.map Oj.o = L.map Oj.o → Objs W W.heap.size (some ⟨g, 0, none⟩) L' → Calls Try.prog 22 #[.slice (some ⟨g, 0, none⟩) n n, .string s] W (FoundA W U)) := fun W L' g he hO => by
    have := findName'_any W W.heap.size (some ⟨g, 0, none⟩) n n L' (by rw [lengthO_same he]; exact hn) hO (Nat.le_refl _) hlen (fitsO_same he hf) s
    rwa [he, hU] at this
  have HIM : Hid (∀ (W : World) (L' : List Oj) (g : Nat), L'.map Oj.o = L.map Oj.o → Objs W W.heap.size (some ⟨g, 0, none⟩) L' → Calls Try.prog 16 #[.slice (some ⟨g, 0, none⟩) n n, .string s] W (FoundA W U)) := fun W L' g he hO => by
    have := findName_any W W.heap.size (some ⟨g, 0, none⟩) n n L' (by rw [lengthO_same he]; exact hn) hO (Nat.le_refl _) hlen (fitsO_same he hf) s hs
    rwa [he, hU] at this
  have HEQ : Hid (∀ (W : World) (B1 : Nat) (L1 L2 : List Oj) (g1 g2 : Nat), L1.map Oj.o = L.map Oj.o → L2.map Oj.o = L.map Oj.o → B1 ≤ W.heap.size → Objs W B1 (some ⟨g1, 0, none⟩) L1 → Objs W W.heap.size (some ⟨g2, 0, none⟩) L2 → Calls Try.prog 33 #[.slice (some ⟨g1, 0, none⟩) n n, .slice (some ⟨g2, 0, none⟩) n n] W fun e w' => e = .returned (.bool true) ∧ Below W.heap.size W w') := fun W B1 L1 L2 g1 g2 e1 e2 hB h1 h2 =>
    eqObjectS_yes W B1 W.heap.size (some ⟨g1, 0, none⟩) (some ⟨g2, 0, none⟩) n n n L1 L2 (e1.trans e2.symm) (by rw [lengthO_same e1]; exact hn) h1 h2 hB (Nat.le_refl _) hlen (fun y hy => (fitsO_same e1 hf y hy).lens)
  have HN := hidden hn
  obtain ⟨ui, ua, ug, us, uw⟩ := U
  unfold FoundA at HSP HIM
  simp only at HSP HIM
  have hok1 : (ug == ug) = true := by simp
  have hok2 : (ug != ug) = false := by simp
  unfold maxLen at hs
  clear hn h hf hls hU
  by_cases hbig : 1048576 < s.size
  · have hd : (1048576 : Int) < (s.size : Int) := by omega
    clear HSP HIM HSZ HTO HEQ hok1 hok2
    go_enter Try.func9, Try.ntmps9
    go_wp2_with fail
    go_ret
    exact ⟨rfl, Below.refl _ _⟩
  have hd : ¬ (1048576 : Int) < (s.size : Int) := by omega
  go_enter Try.func9, Try.ntmps9
  go_wp2_with fail
  refine HSZ.out.mono ?_
  clear HSZ
  rintro e w1 ⟨r, rfl, hb1, hr0, hr1, hr2⟩
  by_cases hneg : r < 0
  · clear hr2
    go_wp2_with fail
    go_ret
    exact ⟨rfl, hb1⟩
  obtain ⟨q1, q2⟩ := hr2 (by omega)
  have hn1 : n ≤ 1048576 := by rw [HN.out]; exact q1
  have HSH := hidden q2
  have HT1 := hidden (HTO.out w1 hb1 hn1 q2)
  clear hr2 q1 q2
  go_wp2_with fail
  refine HT1.out.mono ?_
  clear HT1
  rintro e w2 ⟨L2, he2, rfl, hO2, hb2, -, -, -⟩
  obtain ⟨g2, hg2⟩ : ∃ q, w1.heap.size = q := ⟨_, rfl⟩
  have HS2 := hidden (HSP.out w2 L2 w1.heap.size he2 hO2)
  have HB2 := hidden (hb1.trans (hb2.mono hb1.size))
  rw [hg2] at HS2 ⊢
  clear hO2 he2 hb2 hg2 HSP hb1
  go_wp2_with fail
  refine HS2.out.mono ?_
  clear HS2
  rintro e w3 ⟨rfl, hb3⟩
  have hX : Has (w3.alloc (.cells #[.int .i64 ui, .int .i64 ua] 32)) w3.heap.size 32 #[.int .i64 ui, .int .i64 ua] := Has.new _ _ _
  have hba : Below w3.heap.size w3 (w3.alloc (.cells #[.int .i64 ui, .int .i64 ua] 32)) := (Below.refl _ _).alloc (Nat.le_refl _) _
  obtain ⟨W3, hW3⟩ : ∃ q, w3.alloc (.cells #[.int .i64 ui, .int .i64 ua] 32) = q := ⟨_, rfl⟩
  obtain ⟨qx, hqx⟩ : ∃ q, w3.heap.size = q := ⟨_, rfl⟩
  rw [hW3] at hX hba
  rw [hqx] at hX
  have HX := hidden hX
  have HB3 := hidden ((HB2.out.trans (hb3.mono HB2.out.size)).trans (hba.mono (HB2.out.trans (hb3.mono HB2.out.size)).size))
  have HT3 := hidden (HTO.out W3 HB3.out hn1 HSH.out)
  have HW3 := hidden hW3
  have HQX := hidden hqx
  clear hb3 HB2 hX hba hW3 hqx
  go_upto_region 8 with fail
  rw [HW3.out, HQX.out]
  clear HW3 HQX
  go_wp2_with fail
  refine HT3.out.mono ?_
  clear HT3
  rintro e w4 ⟨L4, he4, rfl, hO4, hb4, -, -, -⟩
  obtain ⟨g4, hg4⟩ : ∃ q, W3.heap.size = q := ⟨_, rfl⟩
  have HI4 := hidden (HIM.out w4 L4 W3.heap.size he4 hO4)
  have HB4 := hidden (HB3.out.trans (hb4.mono HB3.out.size))
  have HX4 := hidden (HX.out.below hb4 HX.out.lt)
  rw [hg4] at HI4 hO4 ⊢
  have HO4 := hidden hO4
  have HE4 := hidden he4
  clear hO4 he4 hb4 hg4 HIM HB3 HX
  go_wp2_with fail
  refine HI4.out.mono ?_
  clear HI4
  rintro e w5 ⟨rfl, hb5⟩
  have hY : Has (w5.alloc (.cells #[.int .i64 ui, .int .i64 ua] 32)) w5.heap.size 32 #[.int .i64 ui, .int .i64 ua] := Has.new _ _ _
  have hba : Below w5.heap.size w5 (w5.alloc (.cells #[.int .i64 ui, .int .i64 ua] 32)) := (Below.refl _ _).alloc (Nat.le_refl _) _
  obtain ⟨W5, hW5⟩ : ∃ q, w5.alloc (.cells #[.int .i64 ui, .int .i64 ua] 32) = q := ⟨_, rfl⟩
  obtain ⟨qy, hqy⟩ : ∃ q, w5.heap.size = q := ⟨_, rfl⟩
  rw [hW5] at hY hba
  rw [hqy] at hY
  have hb45 := hb5.trans (hba.mono hb5.size)
  have HY := hidden hY
  have HB5 := hidden (HB4.out.trans (hb45.mono HB4.out.size))
  have HO5 := hidden (HO4.out.below hb45)
  have HX5 := hidden (HX4.out.below hb45 HX4.out.lt)
  have hs45 : w4.heap.size ≤ W5.heap.size := hb45.size
  have HW5 := hidden hW5
  have HQY := hidden hqy
  clear hb5 HO4 HB4 hY hba hb45 hW5 hqy HX4
  go_upto_region 10 with fail
  rw [HW5.out, HQY.out]
  clear HW5 HQY
  have x0 : W5.cell? ⟨qx, 0, none⟩ = some (.int .i64 ui) := HX5.out.cell 0
  have x1 : W5.cell? ⟨qx, 1, none⟩ = some (.int .i64 ua) := HX5.out.cell 1
  have y0 : W5.cell? ⟨qy, 0, none⟩ = some (.int .i64 ui) := HY.out.cell 0
  have y1 : W5.cell? ⟨qy, 1, none⟩ = some (.int .i64 ua) := HY.out.cell 1
  have HG5 := hidden (eqGiven_yes W5 ui ua)
  clear HX5 HY
  go_wp2_with fail
  refine HG5.out.mono ?_
  clear HG5 x0 x1 y0 y1
  rintro e w6 ⟨rfl, hb6⟩
  have HB6 := hidden (HB5.out.trans (hb6.mono HB5.out.size))
  have HO6 := hidden (HO5.out.below (hb6.mono hs45))
  have hs46 : w4.heap.size ≤ w6.heap.size := Nat.le_trans hs45 hb6.size
  have HT6 := hidden (HTO.out w6 HB6.out hn1 HSH.out)
  clear hb6 HO5 HB5 HTO hs45
  go_wp2_with fail
  refine HT6.out.mono ?_
  clear HT6
  rintro e w7 ⟨L6, he6, rfl, hO6, hb7, -, -, -⟩
  have hs67 := hb7.size
  have HQ6 := hidden (HEQ.out w7 w4.heap.size L4 L6 g4 w6.heap.size HE4.out he6 (by omega) (HO6.out.below (hb7.mono hs46)) hO6)
  obtain ⟨g6, hg6⟩ : ∃ q, w6.heap.size = q := ⟨_, rfl⟩
  have HB7 := hidden (HB6.out.trans (hb7.mono HB6.out.size))
  rw [hg6] at HQ6 ⊢
  clear hO6 he6 hb7 hg6 HO6 HB6 HEQ hs46 hs67 HE4 hok1 hok2
  go_wp2_with fail
  refine HQ6.out.mono ?_
  clear HQ6
  rintro e w8 ⟨rfl, hb8⟩
  have HF := hidden (HB7.out.trans (hb8.mono HB7.out.size))
  clear hb8 HB7
  go_wp2_with fail
  go_ret
  exact ⟨rfl, HF.out⟩

end Go.Proofs.Ytjakkiidedmifaa

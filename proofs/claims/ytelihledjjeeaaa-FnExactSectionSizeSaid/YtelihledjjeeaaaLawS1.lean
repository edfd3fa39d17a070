/-
  The walks of the exact laws of chapter 3, over what is wanted of the program.
-/
import Derived.Test.YtelihledjjeeaaaWant3
import Derived.Deep.RegionWith
namespace Go.Proofs.Ytelihledjjeeaaa
open Go.RowKit

theorem law_ExactFixupWide (hW : WantFixupWide) (w : World) (k : Int) (hk : I64 k) :
    Calls Try.prog 6 #[.int .i64 k] w fun e w' => e = .returned (.bool true) ∧ Below w.heap.size w w' := by
  have H1 := hidden (fixupWide'_any k w)
  have H2 := hidden (fun W => hW W k hk)
  obtain ⟨r, hr⟩ : ∃ r, wideOf k = r := ⟨_, rfl⟩
  rw [hr] at H1 H2
  clear hr hW
  go_enter Try.func6, Try.ntmps6
  go_wp2_with fail
  refine H1.out.mono ?_
  clear H1
  rintro e w1 ⟨rfl, hb1⟩
  go_wp2_with fail
  refine (H2.out w1).mono ?_
  clear H2
  rintro e w2 ⟨rfl, hb2⟩
  go_wp2_with fail
  go_ret
  exact ⟨rfl, hb1.trans (hb2.mono hb1.size)⟩
set_option maxHeartbeats 1000000 in
theorem law_ExactSectionSize (hW : WantSectionSize) (w : World) (s : Sx) (a1 : Option Addr) (c1 : Nat) (a2 : Option Addr) (c2 : Nat) (h1 : Ints w .u8 w.heap.size a1 s.bytes) (h2 : Fixs w w.heap.size a2 s.fixs) (hf : s.fits) :
    Calls Try.prog 7 #[s.agg a1 c1 a2 c2] w fun e w' => e = .returned (.bool true) ∧ Below w.heap.size w w' := by
  have HF := hidden hf
  have HSZ := hidden (fun W => szSection_any W s a1 c1 a2 c2 hf.name hf.bytes hf.count)
  have HTO := hidden (fun (W : World) (hB : Below w.heap.size w W) (k1 : s.bytes.length ≤ 1048576) (k2 : s.fixs.length ≤ 1048576) => toSection_any W w.heap.size s a1 c1 a2 c2 (h1.below hB) (h2.below hB) hB.size k1 k2)
  have HIM := hidden (fun (W : World) (b1 b2 n1 n2 : Nat) (k1 : Ints W .u8 W.heap.size (some ⟨b1, 0, none⟩) s.bytes) (k2 : Fixs W W.heap.size (some ⟨b2, 0, none⟩) s.fixs) => hW W W.heap.size s (some ⟨b1, 0, none⟩) n1 (some ⟨b2, 0, none⟩) n2 k1 k2 (Nat.le_refl _) hf)
  have HSP := hidden (fun (W : World) (b1 b2 n1 n2 : Nat) (k2 : Fixs W W.heap.size (some ⟨b2, 0, none⟩) s.fixs) => sectionSize'_any W s (some ⟨b1, 0, none⟩) n1 (some ⟨b2, 0, none⟩) n2 hf.bytes)
  have HEQ := hidden (fun (W : World) (b1 b2 n1 n2 g1 g2 q1 q2 : Nat) (k1 : Ints W .u8 W.heap.size (some ⟨b1, 0, none⟩) s.bytes) (k2 : Fixs W W.heap.size (some ⟨b2, 0, none⟩) s.fixs) (k3 : Ints W .u8 W.heap.size (some ⟨g1, 0, none⟩) s.bytes) (k4 : Fixs W W.heap.size (some ⟨g2, 0, none⟩) s.fixs) =>
    eqSection_yes W W.heap.size W.heap.size s (some ⟨b1, 0, none⟩) n1 (some ⟨b2, 0, none⟩) n2 (some ⟨g1, 0, none⟩) q1 (some ⟨g2, 0, none⟩) q2 k1 k2 k3 k4 (Nat.le_refl _) (Nat.le_refl _) hf.bytes hf.count)
  obtain ⟨rs, hres⟩ : ∃ r, s.long = r := ⟨_, rfl⟩
  rw [hres] at HIM HSP
  obtain ⟨nm, kind, al, bs, sz, fs⟩ := s
  unfold Sx.agg at HSZ HTO HIM HSP HEQ ⊢
  unfold SizedX at HSZ
  simp only at HSZ HTO HIM HSP HEQ ⊢
  obtain ⟨nb, hnb⟩ : ∃ n, n = bs.length := ⟨_, rfl⟩
  obtain ⟨nf, hnf⟩ : ∃ n, n = fs.length := ⟨_, rfl⟩
  rw [← hnb] at HSZ HTO HIM HSP HEQ ⊢
  rw [← hnf] at HSZ HTO HIM HSP HEQ ⊢
  clear h1 h2 hf hW hnb hnf hres
  go_enter Try.func7, Try.ntmps7
  have hb0 : Below w.heap.size w (w.alloc (.cells #[.string nm, .int .i64 kind, .int .i64 al, .slice a1 nb c1, .int .i64 sz, .slice a2 nf c2] 38)) := (Below.refl _ _).alloc (Nat.le_refl _) _
  have hx0 : Has (w.alloc (.cells #[.string nm, .int .i64 kind, .int .i64 al, .slice a1 nb c1, .int .i64 sz, .slice a2 nf c2] 38)) w.heap.size 38 #[.string nm, .int .i64 kind, .int .i64 al, .slice a1 nb c1, .int .i64 sz, .slice a2 nf c2] := Has.new _ _ _
  go_wp2_with fail
  refine (HSZ.out _).mono ?_
  clear HSZ
  rintro e w1 ⟨r, rfl, hb1, hr0, hr1, hr2⟩
  have hx1 := hx0.below hb1 hx0.lt
  have hB1 := hb0.trans (hb1.mono hb0.size)
  by_cases hneg : r < 0
  · clear hr2 hx0 hx1
    go_wp2_with fail
    go_ret
    exact ⟨rfl, hB1⟩
  obtain ⟨_, hl1, hl2⟩ := hr2 (by omega)
  have x0 : World.cell? w1 ⟨w.heap.size, 0, none⟩ = some (.string nm) := hx1.cell 0
  have x1 : World.cell? w1 ⟨w.heap.size, 1, none⟩ = some (.int .i64 kind) := hx1.cell 1
  have x2 : World.cell? w1 ⟨w.heap.size, 2, none⟩ = some (.int .i64 al) := hx1.cell 2
  have x3 : World.cell? w1 ⟨w.heap.size, 3, none⟩ = some (.slice a1 nb c1) := hx1.cell 3
  have x4 : World.cell? w1 ⟨w.heap.size, 4, none⟩ = some (.int .i64 sz) := hx1.cell 4
  have x5 : World.cell? w1 ⟨w.heap.size, 5, none⟩ = some (.slice a2 nf c2) := hx1.cell 5
  clear hr2 hx0 hb0 hb1
  have HX1 := hidden hx1
  clear hx1
  go_wp2_with fail
  refine (HTO.out w1 hB1 hl1 hl2).mono ?_
  rintro e w2 ⟨b1, b2, n1, n2, rfl, hi2, hf2, hb2⟩
  have hB2 := hB1.trans (hb2.mono hB1.size)
  have hx2 := HX1.out.below hb2 HX1.out.lt
  have HS2 := hidden (HSP.out w2 b1 b2 n1 n2 hf2)
  clear x0 x1 x2 x3 x4 x5 hi2 hf2 hb2 hB1 HX1
  go_wp2_with fail
  refine HS2.out.mono ?_
  clear HS2
  rintro e w3 ⟨rfl, hb3⟩
  have hB3 := hB2.trans (hb3.mono hB2.size)
  have hx3 := hx2.below hb3 hx2.lt
  have x0 : World.cell? w3 ⟨w.heap.size, 0, none⟩ = some (.string nm) := hx3.cell 0
  have x1 : World.cell? w3 ⟨w.heap.size, 1, none⟩ = some (.int .i64 kind) := hx3.cell 1
  have x2 : World.cell? w3 ⟨w.heap.size, 2, none⟩ = some (.int .i64 al) := hx3.cell 2
  have x3 : World.cell? w3 ⟨w.heap.size, 3, none⟩ = some (.slice a1 nb c1) := hx3.cell 3
  have x4 : World.cell? w3 ⟨w.heap.size, 4, none⟩ = some (.int .i64 sz) := hx3.cell 4
  have x5 : World.cell? w3 ⟨w.heap.size, 5, none⟩ = some (.slice a2 nf c2) := hx3.cell 5
  have HX3 := hidden hx3
  clear hx2 hx3 hb3 hB2
  go_wp2_with fail
  refine (HTO.out w3 hB3 hl1 hl2).mono ?_
  rintro e w4 ⟨g1, g2, q1, q2, rfl, hi4, hf4, hb4⟩
  have hB4 := hB3.trans (hb4.mono hB3.size)
  have hx4 := HX3.out.below hb4 HX3.out.lt
  have hB4a : Below w.heap.size w (w4.alloc (.cells #[.string nm, .int .i64 kind, .int .i64 al, .slice (some ⟨g1, 0, none⟩) nb q1, .int .i64 sz, .slice (some ⟨g2, 0, none⟩) nf q2] 29)) := hB4.alloc hB4.size _
  have hx4a := hx4.alloc (.cells #[.string nm, .int .i64 kind, .int .i64 al, .slice (some ⟨g1, 0, none⟩) nb q1, .int .i64 sz, .slice (some ⟨g2, 0, none⟩) nf q2] 29)
  have hy4a : Has (w4.alloc (.cells #[.string nm, .int .i64 kind, .int .i64 al, .slice (some ⟨g1, 0, none⟩) nb q1, .int .i64 sz, .slice (some ⟨g2, 0, none⟩) nf q2] 29)) w4.heap.size 29 #[.string nm, .int .i64 kind, .int .i64 al, .slice (some ⟨g1, 0, none⟩) nb q1, .int .i64 sz, .slice (some ⟨g2, 0, none⟩) nf q2] := Has.new _ _ _
  have hi4a : Ints (w4.alloc (.cells #[.string nm, .int .i64 kind, .int .i64 al, .slice (some ⟨g1, 0, none⟩) nb q1, .int .i64 sz, .slice (some ⟨g2, 0, none⟩) nf q2] 29)) .u8 (w4.alloc (.cells #[.string nm, .int .i64 kind, .int .i64 al, .slice (some ⟨g1, 0, none⟩) nb q1, .int .i64 sz, .slice (some ⟨g2, 0, none⟩) nf q2] 29)).heap.size (some ⟨g1, 0, none⟩) bs := (hi4.alloc (Nat.le_refl _) _).more (by simp)
  have hf4a : Fixs (w4.alloc (.cells #[.string nm, .int .i64 kind, .int .i64 al, .slice (some ⟨g1, 0, none⟩) nb q1, .int .i64 sz, .slice (some ⟨g2, 0, none⟩) nf q2] 29)) (w4.alloc (.cells #[.string nm, .int .i64 kind, .int .i64 al, .slice (some ⟨g1, 0, none⟩) nb q1, .int .i64 sz, .slice (some ⟨g2, 0, none⟩) nf q2] 29)).heap.size (some ⟨g2, 0, none⟩) fs := (hf4.alloc (Nat.le_refl _) _).more (by simp)
  have HI4 := hidden (HIM.out _ g1 g2 q1 q2 hi4a hf4a)
  clear x0 x1 x2 x3 x4 x5 hi4 hf4 hb4 hB3 HX3 hx4
  go_wp2_with fail
  refine HI4.out.mono ?_
  clear HI4
  rintro e w5 ⟨rfl, hb5⟩
  have hB5 := hB4a.trans (hb5.mono hB4a.size)
  have hx5 := hx4a.below hb5 hx4a.lt
  have hy5 := hy4a.below hb5 hy4a.lt
  have hi5 := hi4a.below hb5
  have hf5 := hf4a.below hb5
  have hs5 := hb5.size
  have x0 : World.cell? w5 ⟨w.heap.size, 0, none⟩ = some (.string nm) := hx5.cell 0
  have x1 : World.cell? w5 ⟨w.heap.size, 1, none⟩ = some (.int .i64 kind) := hx5.cell 1
  have x2 : World.cell? w5 ⟨w.heap.size, 2, none⟩ = some (.int .i64 al) := hx5.cell 2
  have x3 : World.cell? w5 ⟨w.heap.size, 3, none⟩ = some (.slice a1 nb c1) := hx5.cell 3
  have x4 : World.cell? w5 ⟨w.heap.size, 4, none⟩ = some (.int .i64 sz) := hx5.cell 4
  have x5 : World.cell? w5 ⟨w.heap.size, 5, none⟩ = some (.slice a2 nf c2) := hx5.cell 5
  have y0 : World.cell? w5 ⟨w4.heap.size, 0, none⟩ = some (.string nm) := hy5.cell 0
  have y1 : World.cell? w5 ⟨w4.heap.size, 1, none⟩ = some (.int .i64 kind) := hy5.cell 1
  have y2 : World.cell? w5 ⟨w4.heap.size, 2, none⟩ = some (.int .i64 al) := hy5.cell 2
  have y3 : World.cell? w5 ⟨w4.heap.size, 3, none⟩ = some (.slice (some ⟨g1, 0, none⟩) nb q1) := hy5.cell 3
  have y4 : World.cell? w5 ⟨w4.heap.size, 4, none⟩ = some (.int .i64 sz) := hy5.cell 4
  have y5 : World.cell? w5 ⟨w4.heap.size, 5, none⟩ = some (.slice (some ⟨g2, 0, none⟩) nf q2) := hy5.cell 5
  have hrr : (rs != rs) = false := by simp
  clear hx4a hy4a hi4a hf4a hb5 hB4a hB4
  have hB5d : Below w.heap.size w w5.drew := hB5.drew
  have hy5d : Has w5.drew w4.heap.size 29 #[.string nm, .int .i64 kind, .int .i64 al, .slice (some ⟨g1, 0, none⟩) nb q1, .int .i64 sz, .slice (some ⟨g2, 0, none⟩) nf q2] := hy5
  have hi5d : Ints w5.drew .u8 w5.heap.size (some ⟨g1, 0, none⟩) bs := hi5.more hs5
  have hf5d : Fixs w5.drew w5.heap.size (some ⟨g2, 0, none⟩) fs := hf5.more hs5
  have HTD := hidden (HTO.out w5.drew hB5d hl1 hl2)
  have HY := hidden hy5d
  have HI := hidden hi5d
  have HFI := hidden hf5d
  clear hx5 hy5 hi5 hf5 hy5d hi5d hf5d HTO HIM HSP hl1 hl2
  go_wp2_with fail
  go_region_with (first
    | (go_at_call 20; refine HTD.out.mono ?_; rintro e w6 ⟨h1, h2, p1, p2, rfl, hi6, hf6, hb6⟩;
       have HB6 := hidden hb6; have HI6 := hidden hi6; have HF6 := hidden hf6; have hy6 := HY.out.below hb6 HY.out.lt; clear hi6 hf6 hb6;
       have v0 := hy6.cell 0; have v1 := hy6.cell 1; have v2 := hy6.cell 2; have v3 := hy6.cell 3; have v4 := hy6.cell 4; have v5 := hy6.cell 5;
       simp only [List.getElem?_toArray, List.getElem?_cons_zero, List.getElem?_cons_succ] at v0 v1 v2 v3 v4 v5; clear hy6)
    | (go_at_call 21; refine (HEQ.out _ g1 g2 q1 q2 _ _ _ _ ((HI.out.below HB6.out).more HB6.out.size) ((HFI.out.below HB6.out).more HB6.out.size) HI6.out HF6.out).mono ?_; rintro e w7 ⟨rfl, hb7⟩))
  all_goals
    have hB7 : Below w.heap.size w w7 := (hB5d.trans (HB6.out.mono hB5d.size)).trans (hb7.mono (hB5d.trans (HB6.out.mono hB5d.size)).size)
    clear hb7
    go_wp2_with fail
    go_ret
    exact ⟨rfl, hB7⟩
set_option maxHeartbeats 1000000 in
theorem law_ExactSectionValid (hW : WantSectionValid) (w : World) (s : Sx) (a1 : Option Addr) (c1 : Nat) (a2 : Option Addr) (c2 : Nat) (h1 : Ints w .u8 w.heap.size a1 s.bytes) (h2 : Fixs w w.heap.size a2 s.fixs) (hf : s.fits) (many : Int) (hmany : I64 many) :
    Calls Try.prog 8 #[s.agg a1 c1 a2 c2, .int .i64 many] w fun e w' => e = .returned (.bool true) ∧ Below w.heap.size w w' := by
  have HF := hidden hf
  have HSZ := hidden (fun W => szSection_any W s a1 c1 a2 c2 hf.name hf.bytes hf.count)
  have HTO := hidden (fun (W : World) (hB : Below w.heap.size w W) (k1 : s.bytes.length ≤ 1048576) (k2 : s.fixs.length ≤ 1048576) => toSection_any W w.heap.size s a1 c1 a2 c2 (h1.below hB) (h2.below hB) hB.size k1 k2)
  have HIM := hidden (fun (W : World) (b1 b2 n1 n2 : Nat) (k1 : Ints W .u8 W.heap.size (some ⟨b1, 0, none⟩) s.bytes) (k2 : Fixs W W.heap.size (some ⟨b2, 0, none⟩) s.fixs) => hW W W.heap.size s many (some ⟨b1, 0, none⟩) n1 (some ⟨b2, 0, none⟩) n2 k1 k2 (Nat.le_refl _) hf hmany)
  have HSP := hidden (fun (W : World) (b1 b2 n1 n2 : Nat) (k2 : Fixs W W.heap.size (some ⟨b2, 0, none⟩) s.fixs) => sectionValid'_any W W.heap.size s many (some ⟨b1, 0, none⟩) n1 (some ⟨b2, 0, none⟩) n2 k2 (Nat.le_refl _) hf.name hf.bytes hf.count)
  have HEQ := hidden (fun (W : World) (b1 b2 n1 n2 g1 g2 q1 q2 : Nat) (k1 : Ints W .u8 W.heap.size (some ⟨b1, 0, none⟩) s.bytes) (k2 : Fixs W W.heap.size (some ⟨b2, 0, none⟩) s.fixs) (k3 : Ints W .u8 W.heap.size (some ⟨g1, 0, none⟩) s.bytes) (k4 : Fixs W W.heap.size (some ⟨g2, 0, none⟩) s.fixs) =>
    eqSection_yes W W.heap.size W.heap.size s (some ⟨b1, 0, none⟩) n1 (some ⟨b2, 0, none⟩) n2 (some ⟨g1, 0, none⟩) q1 (some ⟨g2, 0, none⟩) q2 k1 k2 k3 k4 (Nat.le_refl _) (Nat.le_refl _) hf.bytes hf.count)
  obtain ⟨rs, hres⟩ : ∃ r, sectOk s many = r := ⟨_, rfl⟩
  rw [hres] at HIM HSP
  obtain ⟨nm, kind, al, bs, sz, fs⟩ := s
  unfold Sx.agg at HSZ HTO HIM HSP HEQ ⊢
  unfold SizedX at HSZ
  simp only at HSZ HTO HIM HSP HEQ ⊢
  obtain ⟨nb, hnb⟩ : ∃ n, n = bs.length := ⟨_, rfl⟩
  obtain ⟨nf, hnf⟩ : ∃ n, n = fs.length := ⟨_, rfl⟩
  rw [← hnb] at HSZ HTO HIM HSP HEQ ⊢
  rw [← hnf] at HSZ HTO HIM HSP HEQ ⊢
  clear h1 h2 hf hW hnb hnf hres
  go_enter Try.func8, Try.ntmps8
  have hb0 : Below w.heap.size w (w.alloc (.cells #[.string nm, .int .i64 kind, .int .i64 al, .slice a1 nb c1, .int .i64 sz, .slice a2 nf c2] 38)) := (Below.refl _ _).alloc (Nat.le_refl _) _
  have hx0 : Has (w.alloc (.cells #[.string nm, .int .i64 kind, .int .i64 al, .slice a1 nb c1, .int .i64 sz, .slice a2 nf c2] 38)) w.heap.size 38 #[.string nm, .int .i64 kind, .int .i64 al, .slice a1 nb c1, .int .i64 sz, .slice a2 nf c2] := Has.new _ _ _
  go_wp2_with fail
  refine (HSZ.out _).mono ?_
  clear HSZ
  rintro e w1 ⟨r, rfl, hb1, hr0, hr1, hr2⟩
  have hx1 := hx0.below hb1 hx0.lt
  have hB1 := hb0.trans (hb1.mono hb0.size)
  by_cases hneg : r < 0
  · clear hr2 hx0 hx1
    go_wp2_with fail
    go_ret
    exact ⟨rfl, hB1⟩
  obtain ⟨_, hl1, hl2⟩ := hr2 (by omega)
  have x0 : World.cell? w1 ⟨w.heap.size, 0, none⟩ = some (.string nm) := hx1.cell 0
  have x1 : World.cell? w1 ⟨w.heap.size, 1, none⟩ = some (.int .i64 kind) := hx1.cell 1
  have x2 : World.cell? w1 ⟨w.heap.size, 2, none⟩ = some (.int .i64 al) := hx1.cell 2
  have x3 : World.cell? w1 ⟨w.heap.size, 3, none⟩ = some (.slice a1 nb c1) := hx1.cell 3
  have x4 : World.cell? w1 ⟨w.heap.size, 4, none⟩ = some (.int .i64 sz) := hx1.cell 4
  have x5 : World.cell? w1 ⟨w.heap.size, 5, none⟩ = some (.slice a2 nf c2) := hx1.cell 5
  clear hr2 hx0 hb0 hb1
  have HX1 := hidden hx1
  clear hx1
  go_wp2_with fail
  refine (HTO.out w1 hB1 hl1 hl2).mono ?_
  rintro e w2 ⟨b1, b2, n1, n2, rfl, hi2, hf2, hb2⟩
  have hB2 := hB1.trans (hb2.mono hB1.size)
  have hx2 := HX1.out.below hb2 HX1.out.lt
  have HS2 := hidden (HSP.out w2 b1 b2 n1 n2 hf2)
  clear x0 x1 x2 x3 x4 x5 hi2 hf2 hb2 hB1 HX1
  go_wp2_with fail
  refine HS2.out.mono ?_
  clear HS2
  rintro e w3 ⟨rfl, hb3⟩
  have hB3 := hB2.trans (hb3.mono hB2.size)
  have hx3 := hx2.below hb3 hx2.lt
  have x0 : World.cell? w3 ⟨w.heap.size, 0, none⟩ = some (.string nm) := hx3.cell 0
  have x1 : World.cell? w3 ⟨w.heap.size, 1, none⟩ = some (.int .i64 kind) := hx3.cell 1
  have x2 : World.cell? w3 ⟨w.heap.size, 2, none⟩ = some (.int .i64 al) := hx3.cell 2
  have x3 : World.cell? w3 ⟨w.heap.size, 3, none⟩ = some (.slice a1 nb c1) := hx3.cell 3
  have x4 : World.cell? w3 ⟨w.heap.size, 4, none⟩ = some (.int .i64 sz) := hx3.cell 4
  have x5 : World.cell? w3 ⟨w.heap.size, 5, none⟩ = some (.slice a2 nf c2) := hx3.cell 5
  have HX3 := hidden hx3
  clear hx2 hx3 hb3 hB2
  go_wp2_with fail
  refine (HTO.out w3 hB3 hl1 hl2).mono ?_
  rintro e w4 ⟨g1, g2, q1, q2, rfl, hi4, hf4, hb4⟩
  have hB4 := hB3.trans (hb4.mono hB3.size)
  have hx4 := HX3.out.below hb4 HX3.out.lt
  have hB4a : Below w.heap.size w (w4.alloc (.cells #[.string nm, .int .i64 kind, .int .i64 al, .slice (some ⟨g1, 0, none⟩) nb q1, .int .i64 sz, .slice (some ⟨g2, 0, none⟩) nf q2] 29)) := hB4.alloc hB4.size _
  have hx4a := hx4.alloc (.cells #[.string nm, .int .i64 kind, .int .i64 al, .slice (some ⟨g1, 0, none⟩) nb q1, .int .i64 sz, .slice (some ⟨g2, 0, none⟩) nf q2] 29)
  have hy4a : Has (w4.alloc (.cells #[.string nm, .int .i64 kind, .int .i64 al, .slice (some ⟨g1, 0, none⟩) nb q1, .int .i64 sz, .slice (some ⟨g2, 0, none⟩) nf q2] 29)) w4.heap.size 29 #[.string nm, .int .i64 kind, .int .i64 al, .slice (some ⟨g1, 0, none⟩) nb q1, .int .i64 sz, .slice (some ⟨g2, 0, none⟩) nf q2] := Has.new _ _ _
  have hi4a : Ints (w4.alloc (.cells #[.string nm, .int .i64 kind, .int .i64 al, .slice (some ⟨g1, 0, none⟩) nb q1, .int .i64 sz, .slice (some ⟨g2, 0, none⟩) nf q2] 29)) .u8 (w4.alloc (.cells #[.string nm, .int .i64 kind, .int .i64 al, .slice (some ⟨g1, 0, none⟩) nb q1, .int .i64 sz, .slice (some ⟨g2, 0, none⟩) nf q2] 29)).heap.size (some ⟨g1, 0, none⟩) bs := (hi4.alloc (Nat.le_refl _) _).more (by simp)
  have hf4a : Fixs (w4.alloc (.cells #[.string nm, .int .i64 kind, .int .i64 al, .slice (some ⟨g1, 0, none⟩) nb q1, .int .i64 sz, .slice (some ⟨g2, 0, none⟩) nf q2] 29)) (w4.alloc (.cells #[.string nm, .int .i64 kind, .int .i64 al, .slice (some ⟨g1, 0, none⟩) nb q1, .int .i64 sz, .slice (some ⟨g2, 0, none⟩) nf q2] 29)).heap.size (some ⟨g2, 0, none⟩) fs := (hf4.alloc (Nat.le_refl _) _).more (by simp)
  have HI4 := hidden (HIM.out _ g1 g2 q1 q2 hi4a hf4a)
  clear x0 x1 x2 x3 x4 x5 hi4 hf4 hb4 hB3 HX3 hx4
  go_wp2_with fail
  refine HI4.out.mono ?_
  clear HI4
  rintro e w5 ⟨rfl, hb5⟩
  have hB5 := hB4a.trans (hb5.mono hB4a.size)
  have hx5 := hx4a.below hb5 hx4a.lt
  have hy5 := hy4a.below hb5 hy4a.lt
  have hi5 := hi4a.below hb5
  have hf5 := hf4a.below hb5
  have hs5 := hb5.size
  have x0 : World.cell? w5 ⟨w.heap.size, 0, none⟩ = some (.string nm) := hx5.cell 0
  have x1 : World.cell? w5 ⟨w.heap.size, 1, none⟩ = some (.int .i64 kind) := hx5.cell 1
  have x2 : World.cell? w5 ⟨w.heap.size, 2, none⟩ = some (.int .i64 al) := hx5.cell 2
  have x3 : World.cell? w5 ⟨w.heap.size, 3, none⟩ = some (.slice a1 nb c1) := hx5.cell 3
  have x4 : World.cell? w5 ⟨w.heap.size, 4, none⟩ = some (.int .i64 sz) := hx5.cell 4
  have x5 : World.cell? w5 ⟨w.heap.size, 5, none⟩ = some (.slice a2 nf c2) := hx5.cell 5
  have y0 : World.cell? w5 ⟨w4.heap.size, 0, none⟩ = some (.string nm) := hy5.cell 0
  have y1 : World.cell? w5 ⟨w4.heap.size, 1, none⟩ = some (.int .i64 kind) := hy5.cell 1
  have y2 : World.cell? w5 ⟨w4.heap.size, 2, none⟩ = some (.int .i64 al) := hy5.cell 2
  have y3 : World.cell? w5 ⟨w4.heap.size, 3, none⟩ = some (.slice (some ⟨g1, 0, none⟩) nb q1) := hy5.cell 3
  have y4 : World.cell? w5 ⟨w4.heap.size, 4, none⟩ = some (.int .i64 sz) := hy5.cell 4
  have y5 : World.cell? w5 ⟨w4.heap.size, 5, none⟩ = some (.slice (some ⟨g2, 0, none⟩) nf q2) := hy5.cell 5
  have hrr : (rs != rs) = false := by simp
  clear hx4a hy4a hi4a hf4a hb5 hB4a hB4
  have hB5d : Below w.heap.size w w5.drew := hB5.drew
  have hy5d : Has w5.drew w4.heap.size 29 #[.string nm, .int .i64 kind, .int .i64 al, .slice (some ⟨g1, 0, none⟩) nb q1, .int .i64 sz, .slice (some ⟨g2, 0, none⟩) nf q2] := hy5
  have hi5d : Ints w5.drew .u8 w5.heap.size (some ⟨g1, 0, none⟩) bs := hi5.more hs5
  have hf5d : Fixs w5.drew w5.heap.size (some ⟨g2, 0, none⟩) fs := hf5.more hs5
  have HTD := hidden (HTO.out w5.drew hB5d hl1 hl2)
  have HY := hidden hy5d
  have HI := hidden hi5d
  have HFI := hidden hf5d
  clear hx5 hy5 hi5 hf5 hy5d hi5d hf5d HTO HIM HSP hl1 hl2
  go_wp2_with fail
  go_region_with (first
    | (go_at_call 20; refine HTD.out.mono ?_; rintro e w6 ⟨h1, h2, p1, p2, rfl, hi6, hf6, hb6⟩;
       have HB6 := hidden hb6; have HI6 := hidden hi6; have HF6 := hidden hf6; have hy6 := HY.out.below hb6 HY.out.lt; clear hi6 hf6 hb6;
       have v0 := hy6.cell 0; have v1 := hy6.cell 1; have v2 := hy6.cell 2; have v3 := hy6.cell 3; have v4 := hy6.cell 4; have v5 := hy6.cell 5;
       simp only [List.getElem?_toArray, List.getElem?_cons_zero, List.getElem?_cons_succ] at v0 v1 v2 v3 v4 v5; clear hy6)
    | (go_at_call 21; refine (HEQ.out _ g1 g2 q1 q2 _ _ _ _ ((HI.out.below HB6.out).more HB6.out.size) ((HFI.out.below HB6.out).more HB6.out.size) HI6.out HF6.out).mono ?_; rintro e w7 ⟨rfl, hb7⟩))
  all_goals
    have hB7 : Below w.heap.size w w7 := (hB5d.trans (HB6.out.mono hB5d.size)).trans (hb7.mono (hB5d.trans (HB6.out.mono hB5d.size)).size)
    clear hb7
    go_wp2_with fail
    go_ret
    exact ⟨rfl, hB7⟩

end Go.Proofs.Ytelihledjjeeaaa

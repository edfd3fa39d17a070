/-
  spec.DrawNamesGiven.
-/
import Derived.Test.YtjakkiidedmifaaDrawOV
namespace Go.Proofs.Ytjakkiidedmifaa
open Go.RowKit

theorem drawNamesGiven_any (w : World) (a : Option Addr) (cap : Nat) (l : List Int) (h : Ints w .u8 w.heap.size a l) (hcap : l.length ≤ cap) (hlen : cap ≤ 9223372036854775807) :
    Calls Try.prog 12 #[.slice a l.length cap] w (GotO w) := by
  go_enter Try.func12, Try.ntmps12
  go_wp2_with fail
  refine (l20Open_any (w.alloc (.cells #[.slice none 0 0, .slice none 0 0] 26)) a cap l ((h.alloc (Nat.le_refl _) _).more (by simp)) hcap hlen).mono ?_
  rintro e w1 ⟨rfl, hr1, hb1⟩
  clear h
  have s0 : (w.alloc (.cells #[.slice none 0 0, .slice none 0 0] 26)).heap.size = w.heap.size + 1 := by simp
  rw [s0] at hr1 hb1
  rw [s0]
  have hres1 : Has w1 w.heap.size 26 #[.slice none 0 0, .slice none 0 0] := (Has.new w _ _).below hb1 (by omega)
  have hbw1 : Below w.heap.size w w1 := ((Below.refl _ _).alloc (Nat.le_refl _) _).trans (hb1.mono (by omega))
  have HX := hidden (l20Object_any w1 (w.heap.size + 1) (w.heap.size + 1) 0 9 hr1 (by omega) (by omega) (by omega))
  have hlt := hr1.lt
  clear hb1 s0 hr1
  go_wp2_with fail
  refine HX.out.mono ?_
  clear HX
  rintro e w5 ⟨a1, a2, c1, c2, ss, ms, rfl, h1, h2, hS, hM, hs, hr5, hg5⟩
  have hres5 : Has w5 w.heap.size 26 #[.slice none 0 0, .slice none 0 0] := hres1.grown hg5 (by simp)
  have y0 : w5.cell? ⟨w.heap.size, 0, none⟩ = some (.slice none 0 0) := hres5.cell 0
  have y1 : w5.cell? ⟨w.heap.size, 1, none⟩ = some (.slice none 0 0) := hres5.cell 1
  have f0 := hres5.free 0
  have f1 := hres5.free 1
  have HRES := hidden hres5
  have HS := hidden hS
  have HM := hidden hM
  have hbw5 : Below w.heap.size w w5 := hbw1.grown hg5 hbw1.size (by intro q hq; injection hq with hq; omega)
  clear hg5 hr5 hres5 hS hM hres1 hbw1
  go_wp2_with fail
  have HF : Has ((w5.setCell ⟨w.heap.size, 0, none⟩ (.slice a1 ss.length c1)).setCell ⟨w.heap.size, 1, none⟩ (.slice a2 ms.length c2)) w.heap.size 26 #[.slice a1 ss.length c1, .slice a2 ms.length c2] := (HRES.out.put 0 _).put 1 _
  have G0 : w5.grownBy (w5.setCell ⟨w.heap.size, 0, none⟩ (.slice a1 ss.length c1)) (some w.heap.size) := only_put' (g := w.heap.size) 0 _
  have G1 : (w5.setCell ⟨w.heap.size, 0, none⟩ (.slice a1 ss.length c1)).grownBy ((w5.setCell ⟨w.heap.size, 0, none⟩ (.slice a1 ss.length c1)).setCell ⟨w.heap.size, 1, none⟩ (.slice a2 ms.length c2)) (some w.heap.size) := only_put' (g := w.heap.size) 1 _
  have S0 := (HS.out.low (by omega) G0).low (by omega) G1
  have M0 := HM.out.kept G0 (row_high HM.out (by omega))
  have M1 := M0.kept G1 (row_high M0 (by omega))
  have HG := only_trans G0 G1
  refine bodyPost_ret (results_cell_row rfl _ _ w.heap.size 26 #[.slice a1 ss.length c1, .slice a2 ms.length c2] (0, 0) _ rfl HF Try.underlying26 rfl (by kernel_rfl)) rfl ?_
  exact ⟨ss, ms, a1, a2, c1, c2, rfl, h1, h2, S0.small, hs, S0.sects, syms_of_own M1, ⟨_, M1⟩, hbw5.grown HG hbw5.size (by intro q hq; injection hq with hq; omega)⟩


end Go.Proofs.Ytjakkiidedmifaa

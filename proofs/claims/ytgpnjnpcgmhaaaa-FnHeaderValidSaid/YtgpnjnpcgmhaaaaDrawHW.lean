/-
  What the law on valid headers draws.
-/
import Derived.Test.YtgpnjnpcgmhaaaaDrawH
namespace Go.Proofs.Ytgpnjnpcgmhaaaa
open Go.RowKit

set_option maxRecDepth 100000 in
set_option maxHeartbeats 1000000 in
theorem drawHeaderValid_any (w : World) (a : Option Addr) (cap : Nat) (l : List Int) (h : Ints w .u8 w.heap.size a l) (hcap : l.length ≤ cap) (hlen : cap ≤ 9223372036854775807) :
    Calls Try.prog 4 #[.slice a l.length cap] w fun e w' => ∃ m : Hd, e = .returned m.agg ∧ m.small ∧ Below w.heap.size w w' := by
  go_enter Try.func4, Try.ntmps4
  go_wp2_with fail
  refine (l20Open_any (w.alloc (.cells #[.int .i64 0, .int .i64 0, .int .i64 0, .int .i64 0] 24)) a cap l ((h.alloc (Nat.le_refl _) _).more (by simp)) hcap hlen).mono ?_
  rintro e w1 ⟨rfl, hr1, hb1⟩
  clear h
  have s0 : (w.alloc (.cells #[.int .i64 0, .int .i64 0, .int .i64 0, .int .i64 0] 24)).heap.size = w.heap.size + 1 := by simp
  rw [s0] at hr1 hb1
  rw [s0]
  have hres1 : Has w1 w.heap.size 24 #[.int .i64 0, .int .i64 0, .int .i64 0, .int .i64 0] := (Has.new w _ _).below hb1 (by omega)
  have hbw1 : Below w.heap.size w w1 := ((Below.refl _ _).alloc (Nat.le_refl _) _).trans (hb1.mono (by omega))
  have HX := hidden (l20Header_any w1 (w.heap.size + 1) (w.heap.size + 1) 0 2 hr1 (by omega) (by omega) (by omega))
  have hlt := hr1.lt
  clear hb1 s0 hr1
  go_wp2_with fail
  refine HX.out.mono ?_
  clear HX
  rintro e w5 ⟨m, he, hm, hr5, hg5⟩
  unfold Hd.agg at he
  subst he
  have hres5 : Has w5 w.heap.size 24 #[.int .i64 0, .int .i64 0, .int .i64 0, .int .i64 0] := hres1.grown hg5 (by simp)
  have y0 : w5.cell? ⟨w.heap.size, 0, none⟩ = some (.int .i64 0) := hres5.cell 0
  have y1 : w5.cell? ⟨w.heap.size, 1, none⟩ = some (.int .i64 0) := hres5.cell 1
  have y2 : w5.cell? ⟨w.heap.size, 2, none⟩ = some (.int .i64 0) := hres5.cell 2
  have y3 : w5.cell? ⟨w.heap.size, 3, none⟩ = some (.int .i64 0) := hres5.cell 3
  have f0 := hres5.free 0
  have f1 := hres5.free 1
  have f2 := hres5.free 2
  have f3 := hres5.free 3
  have HRES := hidden hres5
  have hbw5 : Below w.heap.size w w5 := hbw1.grown hg5 hbw1.size (by intro q hq; injection hq with hq; omega)
  clear hg5 hr5 hres5 hres1 hbw1
  go_wp2_with fail
  have HF : Has ((((w5.setCell ⟨w.heap.size, 0, none⟩ (.int .i64 m.sec)).setCell ⟨w.heap.size, 1, none⟩ (.int .i64 m.sym)).setCell ⟨w.heap.size, 2, none⟩ (.int .i64 m.fix)).setCell ⟨w.heap.size, 3, none⟩ (.int .i64 m.nam)) w.heap.size 24 #[.int .i64 m.sec, .int .i64 m.sym, .int .i64 m.fix, .int .i64 m.nam] := (((HRES.out.put 0 _).put 1 _).put 2 _).put 3 _
  have HG : w5.grownBy ((((w5.setCell ⟨w.heap.size, 0, none⟩ (.int .i64 m.sec)).setCell ⟨w.heap.size, 1, none⟩ (.int .i64 m.sym)).setCell ⟨w.heap.size, 2, none⟩ (.int .i64 m.fix)).setCell ⟨w.heap.size, 3, none⟩ (.int .i64 m.nam)) (some w.heap.size) := (only_trans (only_trans (only_trans (only_put' (g := w.heap.size) 0 _) (only_put' (g := w.heap.size) 1 _)) (only_put' (g := w.heap.size) 2 _)) (only_put' (g := w.heap.size) 3 _))
  refine bodyPost_ret (results_cell_row rfl _ _ w.heap.size 24 #[.int .i64 m.sec, .int .i64 m.sym, .int .i64 m.fix, .int .i64 m.nam] (0, 0) _ rfl HF Try.underlying24 rfl (by kernel_rfl)) rfl ?_
  exact ⟨m, rfl, hm, hbw5.grown HG hbw5.size (by intro q hq; injection hq with hq; omega)⟩

end Go.Proofs.Ytgpnjnpcgmhaaaa

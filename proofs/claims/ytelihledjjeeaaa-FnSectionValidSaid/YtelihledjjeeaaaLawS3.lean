/-
  The draws of the laws over sections; the walk of FnSectionSize, over what is wanted of the program.
-/
import Derived.Test.YtelihledjjeeaaaWant3
import Derived.Test.YtelihledjjeeaaaCame
import Derived.Test.YtelihledjjeeaaaDrawX
import Derived.Test.YtelihledjjeeaaaAlign
import Derived.Laws.ResultCell
namespace Go.Proofs.Ytelihledjjeeaaa
open Go.RowKit

theorem Sx.small.fits {s : Sx} (h : s.small) : s.fits :=
  have := h.kind0; have := h.kind1; have := h.align0; have := h.align1; have := h.size0; have := h.size1; have := h.bytes; have := h.count; have := h.name
  ⟨by unfold maxLen; omega, ⟨by omega, by omega⟩, ⟨by omega, by omega⟩, ⟨by omega, by omega⟩, by omega, by omega, fun f hf => by
    obtain ⟨k1, k2, k3, k4, k5, k6, k7, k8⟩ := h.fixs f hf
    exact ⟨⟨by omega, by omega⟩, ⟨by omega, by omega⟩, ⟨by omega, by omega⟩, ⟨by omega, by omega⟩⟩⟩
set_option maxHeartbeats 1000000 in
theorem drawSectionSize_any (w : World) (a : Option Addr) (cap : Nat) (l : List Int) (h : Ints w .u8 w.heap.size a l) (hcap : l.length ≤ cap) (hlen : cap ≤ 9223372036854775807) :
    Calls Try.prog 13 #[.slice a l.length cap] w fun e w' => ∃ (s : Sx) (a1 : Option Addr) (c1 : Nat) (a2 : Option Addr) (c2 : Nat), e = .returned (s.agg a1 c1 a2 c2) ∧ s.small ∧ Ints w' .u8 w'.heap.size a1 s.bytes ∧ Fixs w' w'.heap.size a2 s.fixs ∧ Below w.heap.size w w' := by
  go_enter Try.func13, Try.ntmps13
  go_wp2_with fail
  refine (l20Open_any (w.alloc (.cells #[.string ⟨#[]⟩, .int .i64 0, .int .i64 0, .slice none 0 0, .int .i64 0, .slice none 0 0] 29)) a cap l ((h.alloc (Nat.le_refl _) _).more (by simp)) hcap hlen).mono ?_
  rintro e w1 ⟨rfl, hr1, hb1⟩
  clear h
  have s0 : (w.alloc (.cells #[.string ⟨#[]⟩, .int .i64 0, .int .i64 0, .slice none 0 0, .int .i64 0, .slice none 0 0] 29)).heap.size = w.heap.size + 1 := by simp
  rw [s0] at hr1 hb1
  rw [s0]
  have hres1 : Has w1 w.heap.size 29 #[.string ⟨#[]⟩, .int .i64 0, .int .i64 0, .slice none 0 0, .int .i64 0, .slice none 0 0] := (Has.new w _ _).below hb1 (by omega)
  have hbw1 : Below w.heap.size w w1 := ((Below.refl _ _).alloc (Nat.le_refl _) _).trans (hb1.mono (by omega))
  go_wp2_with fail
  refine (l20Section_any w1 (w.heap.size + 1) (w.heap.size + 1) 0 2 4 hr1 (by omega) (by omega) (by omega) (by omega) (by omega)).mono ?_
  rintro e w2 ⟨s, a1, c1, a2, c2, he, hs, o1, o2, hr2, hg2⟩
  have hres2 : Has w2 w.heap.size 29 #[.string ⟨#[]⟩, .int .i64 0, .int .i64 0, .slice none 0 0, .int .i64 0, .slice none 0 0] := hres1.grown hg2 (by simp)
  have hbw2 : Below w.heap.size w w2 := hbw1.grown hg2 hbw1.size (by intro q hq; injection hq with hq; omega)
  clear hr1 hr2 hb1 s0 hg2
  unfold Sx.agg at he
  subst he
  have y0 : w2.cell? ⟨w.heap.size, 0, none⟩ = some (.string ⟨#[]⟩) := hres2.cell 0
  have y1 : w2.cell? ⟨w.heap.size, 1, none⟩ = some (.int .i64 0) := hres2.cell 1
  have y2 : w2.cell? ⟨w.heap.size, 2, none⟩ = some (.int .i64 0) := hres2.cell 2
  have y3 : w2.cell? ⟨w.heap.size, 3, none⟩ = some (.slice none 0 0) := hres2.cell 3
  have y4 : w2.cell? ⟨w.heap.size, 4, none⟩ = some (.int .i64 0) := hres2.cell 4
  have y5 : w2.cell? ⟨w.heap.size, 5, none⟩ = some (.slice none 0 0) := hres2.cell 5
  have f0 := hres2.free 0
  have f1 := hres2.free 1
  have f2 := hres2.free 2
  have f3 := hres2.free 3
  have f4 := hres2.free 4
  have f5 := hres2.free 5
  go_wp2_with fail
  have HF : Has ((((((w2.setCell ⟨w.heap.size, 0, none⟩ (.string s.name)).setCell ⟨w.heap.size, 1, none⟩ (.int .i64 s.kind)).setCell ⟨w.heap.size, 2, none⟩ (.int .i64 s.align)).setCell ⟨w.heap.size, 3, none⟩ (.slice a1 s.bytes.length c1)).setCell ⟨w.heap.size, 4, none⟩ (.int .i64 s.size)).setCell ⟨w.heap.size, 5, none⟩ (.slice a2 s.fixs.length c2)) w.heap.size 29 #[.string s.name, .int .i64 s.kind, .int .i64 s.align, .slice a1 s.bytes.length c1, .int .i64 s.size, .slice a2 s.fixs.length c2] := ((((((hres2.put 0 _).put 1 _).put 2 _).put 3 _).put 4 _).put 5 _)
  have HG : w2.grownBy ((((((w2.setCell ⟨w.heap.size, 0, none⟩ (.string s.name)).setCell ⟨w.heap.size, 1, none⟩ (.int .i64 s.kind)).setCell ⟨w.heap.size, 2, none⟩ (.int .i64 s.align)).setCell ⟨w.heap.size, 3, none⟩ (.slice a1 s.bytes.length c1)).setCell ⟨w.heap.size, 4, none⟩ (.int .i64 s.size)).setCell ⟨w.heap.size, 5, none⟩ (.slice a2 s.fixs.length c2)) (some w.heap.size) := (only_trans (only_trans (only_trans (only_trans (only_trans (only_put' (g := w.heap.size) 0 _) (only_put' (g := w.heap.size) 1 _)) (only_put' (g := w.heap.size) 2 _)) (only_put' (g := w.heap.size) 3 _)) (only_put' (g := w.heap.size) 4 _)) (only_put' (g := w.heap.size) 5 _))
  refine bodyPost_ret (results_cell_row rfl _ _ w.heap.size 29 #[.string s.name, .int .i64 s.kind, .int .i64 s.align, .slice a1 s.bytes.length c1, .int .i64 s.size, .slice a2 s.fixs.length c2] (0, 0) _ rfl HF Try.underlying29 rfl (by kernel_rfl)) rfl ?_
  obtain ⟨WF, hWF⟩ : ∃ q, ((((((w2.setCell ⟨w.heap.size, 0, none⟩ (.string s.name)).setCell ⟨w.heap.size, 1, none⟩ (.int .i64 s.kind)).setCell ⟨w.heap.size, 2, none⟩ (.int .i64 s.align)).setCell ⟨w.heap.size, 3, none⟩ (.slice a1 s.bytes.length c1)).setCell ⟨w.heap.size, 4, none⟩ (.int .i64 s.size)).setCell ⟨w.heap.size, 5, none⟩ (.slice a2 s.fixs.length c2)) = q := ⟨_, rfl⟩
  rw [hWF] at HF HG
  rw [hWF]
  clear hWF
  have o1' := o1.kept HG (row_high o1 hres1.lt)
  have o2' := o2.kept HG (row_high o2 hres1.lt)
  have hi1 : Ints WF .u8 WF.heap.size a1 s.bytes := by
    obtain ⟨b1, d1, e1, hd1, hi1⟩ := ints_of_own' o1' hs.wf
    cases e1
    exact hi1
  exact ⟨s, a1, c1, a2, c2, rfl, hs, hi1, fixs_of_own o2', hbw2.grown HG hbw2.size (by intro q hq; injection hq with hq; omega)⟩
theorem results_cell_row2 {P : Program} {fn : Func} {p u : Tmp} {ty : TypeId} (h : fn.results = #[.cell p ty, .tmp u]) (tmps : Array Value) (w : World) (g : Nat) (t : TypeId) (cs : Array Value) (fr : Nat × Nat) (d : TypeDesc)
    (hp : tmps.getD p undef = .pointer (some ⟨g, 0, none⟩)) (hg : w.heap[g]? = some (.cells cs t fr))
    (hu : P.underlying ty = some d) (hd : (match d with | .struct _ | .array _ _ => true | _ => false) = true) (hi : (P.info? ty).map (·.size) = some cs.size) :
    (results fn tmps).run P w = .ok (.tuple #[.agg cs, tmps.getD u undef]) w := by
  rw [results_cell_tmp h, hp]
  simp [asAddr, run_loadVar_row w g t ty cs fr d hg hu hd hi, Result.andThen]
set_option maxHeartbeats 1000000 in
theorem drawSectionValid_any (w : World) (a : Option Addr) (cap : Nat) (l : List Int) (h : Ints w .u8 w.heap.size a l) (hcap : l.length ≤ cap) (hlen : cap ≤ 9223372036854775807) :
    Calls Try.prog 16 #[.slice a l.length cap] w fun e w' => ∃ (s : Sx) (a1 : Option Addr) (c1 : Nat) (a2 : Option Addr) (c2 : Nat) (many : Int), e = .returned (.tuple #[s.agg a1 c1 a2 c2, .int .i64 many]) ∧ s.small ∧ 0 ≤ many ∧ many < 4 ∧ Ints w' .u8 w'.heap.size a1 s.bytes ∧ Fixs w' w'.heap.size a2 s.fixs ∧ Below w.heap.size w w' := by
  go_enter Try.func16, Try.ntmps16
  go_wp2_with fail
  refine (l20Open_any (w.alloc (.cells #[.string ⟨#[]⟩, .int .i64 0, .int .i64 0, .slice none 0 0, .int .i64 0, .slice none 0 0] 29)) a cap l ((h.alloc (Nat.le_refl _) _).more (by simp)) hcap hlen).mono ?_
  rintro e w1 ⟨rfl, hr1, hb1⟩
  clear h
  have s0 : (w.alloc (.cells #[.string ⟨#[]⟩, .int .i64 0, .int .i64 0, .slice none 0 0, .int .i64 0, .slice none 0 0] 29)).heap.size = w.heap.size + 1 := by simp
  rw [s0] at hr1 hb1
  rw [s0]
  have hres0 : Has w1 w.heap.size 29 #[.string ⟨#[]⟩, .int .i64 0, .int .i64 0, .slice none 0 0, .int .i64 0, .slice none 0 0] := (Has.new w _ _).below hb1 (by omega)
  have hbw0 : Below w.heap.size w w1 := ((Below.refl _ _).alloc (Nat.le_refl _) _).trans (hb1.mono (by omega))
  go_wp2_with fail
  refine (pick_any w1 (w.heap.size + 1) (w.heap.size + 1) 0 4 hr1 (by omega) (by omega) (by omega)).mono ?_
  rintro e w1' ⟨many, rfl, m0, m1, hr1', hg1⟩
  have hres1 : Has w1' w.heap.size 29 #[.string ⟨#[]⟩, .int .i64 0, .int .i64 0, .slice none 0 0, .int .i64 0, .slice none 0 0] := hres0.grown hg1 (by simp)
  have hbw1 : Below w.heap.size w w1' := hbw0.grown hg1 hbw0.size (by intro q hq; injection hq with hq; omega)
  clear hr1 hb1 hres0 hbw0 hg1
  go_wp2_with fail
  refine (l20Section_any w1' (w.heap.size + 1) (w.heap.size + 1) (0 + 1) many 2 hr1' (by omega) (by omega) (by omega) (by omega) (by omega)).mono ?_
  rintro e w2 ⟨s, a1, c1, a2, c2, he, hs, o1, o2, hr2, hg2⟩
  have hres2 : Has w2 w.heap.size 29 #[.string ⟨#[]⟩, .int .i64 0, .int .i64 0, .slice none 0 0, .int .i64 0, .slice none 0 0] := hres1.grown hg2 (by simp)
  have hbw2 : Below w.heap.size w w2 := hbw1.grown hg2 hbw1.size (by intro q hq; injection hq with hq; omega)
  clear hr1' hr2 s0 hg2
  unfold Sx.agg at he
  subst he
  have y0 : w2.cell? ⟨w.heap.size, 0, none⟩ = some (.string ⟨#[]⟩) := hres2.cell 0
  have y1 : w2.cell? ⟨w.heap.size, 1, none⟩ = some (.int .i64 0) := hres2.cell 1
  have y2 : w2.cell? ⟨w.heap.size, 2, none⟩ = some (.int .i64 0) := hres2.cell 2
  have y3 : w2.cell? ⟨w.heap.size, 3, none⟩ = some (.slice none 0 0) := hres2.cell 3
  have y4 : w2.cell? ⟨w.heap.size, 4, none⟩ = some (.int .i64 0) := hres2.cell 4
  have y5 : w2.cell? ⟨w.heap.size, 5, none⟩ = some (.slice none 0 0) := hres2.cell 5
  have f0 := hres2.free 0
  have f1 := hres2.free 1
  have f2 := hres2.free 2
  have f3 := hres2.free 3
  have f4 := hres2.free 4
  have f5 := hres2.free 5
  go_wp2_with fail
  have HF : Has ((((((w2.setCell ⟨w.heap.size, 0, none⟩ (.string s.name)).setCell ⟨w.heap.size, 1, none⟩ (.int .i64 s.kind)).setCell ⟨w.heap.size, 2, none⟩ (.int .i64 s.align)).setCell ⟨w.heap.size, 3, none⟩ (.slice a1 s.bytes.length c1)).setCell ⟨w.heap.size, 4, none⟩ (.int .i64 s.size)).setCell ⟨w.heap.size, 5, none⟩ (.slice a2 s.fixs.length c2)) w.heap.size 29 #[.string s.name, .int .i64 s.kind, .int .i64 s.align, .slice a1 s.bytes.length c1, .int .i64 s.size, .slice a2 s.fixs.length c2] := ((((((hres2.put 0 _).put 1 _).put 2 _).put 3 _).put 4 _).put 5 _)
  have HG : w2.grownBy ((((((w2.setCell ⟨w.heap.size, 0, none⟩ (.string s.name)).setCell ⟨w.heap.size, 1, none⟩ (.int .i64 s.kind)).setCell ⟨w.heap.size, 2, none⟩ (.int .i64 s.align)).setCell ⟨w.heap.size, 3, none⟩ (.slice a1 s.bytes.length c1)).setCell ⟨w.heap.size, 4, none⟩ (.int .i64 s.size)).setCell ⟨w.heap.size, 5, none⟩ (.slice a2 s.fixs.length c2)) (some w.heap.size) := (only_trans (only_trans (only_trans (only_trans (only_trans (only_put' (g := w.heap.size) 0 _) (only_put' (g := w.heap.size) 1 _)) (only_put' (g := w.heap.size) 2 _)) (only_put' (g := w.heap.size) 3 _)) (only_put' (g := w.heap.size) 4 _)) (only_put' (g := w.heap.size) 5 _))
  refine bodyPost_ret (results_cell_row2 rfl _ _ w.heap.size 29 #[.string s.name, .int .i64 s.kind, .int .i64 s.align, .slice a1 s.bytes.length c1, .int .i64 s.size, .slice a2 s.fixs.length c2] (0, 0) _ rfl HF Try.underlying29 rfl (by kernel_rfl)) rfl ?_
  obtain ⟨WF, hWF⟩ : ∃ q, ((((((w2.setCell ⟨w.heap.size, 0, none⟩ (.string s.name)).setCell ⟨w.heap.size, 1, none⟩ (.int .i64 s.kind)).setCell ⟨w.heap.size, 2, none⟩ (.int .i64 s.align)).setCell ⟨w.heap.size, 3, none⟩ (.slice a1 s.bytes.length c1)).setCell ⟨w.heap.size, 4, none⟩ (.int .i64 s.size)).setCell ⟨w.heap.size, 5, none⟩ (.slice a2 s.fixs.length c2)) = q := ⟨_, rfl⟩
  rw [hWF] at HF HG
  rw [hWF]
  clear hWF
  have o1' := o1.kept HG (row_high o1 hres1.lt)
  have o2' := o2.kept HG (row_high o2 hres1.lt)
  have hi1 : Ints WF .u8 WF.heap.size a1 s.bytes := by
    obtain ⟨b1, d1, e1, hd1, hi1⟩ := ints_of_own' o1' hs.wf
    cases e1
    exact hi1
  exact ⟨s, a1, c1, a2, c2, many, rfl, hs, m0, m1, hi1, fixs_of_own o2', hbw2.grown HG hbw2.size (by intro q hq; injection hq with hq; omega)⟩

end Go.Proofs.Ytelihledjjeeaaa

/-
  spec.DrawHideNames: an object that was drawn, and names.
-/
import Derived.Test.YtlkhfgfficehcaaDrawO
import Derived.Test.YtlkhfgfficehcaaRoB
import Derived.Laws.ResultCell
import Derived.Deep.RegionWith
import Derived.Deep.CutBlock
namespace Go.Proofs.Ytlkhfgfficehcaa
open Go.RowKit

theorem results_cell_rowK {P : Program} {fn : Func} {p u : Tmp} {ty : TypeId} (h : fn.results = #[.cell p ty, .tmp u]) (tmps : Array Value) (w : World) (g : Nat) (t : TypeId) (cs : Array Value) (fr : Nat × Nat) (d : TypeDesc)
    (hp : tmps.getD p undef = .pointer (some ⟨g, 0, none⟩)) (hg : w.heap[g]? = some (.cells cs t fr))
    (hu : P.underlying ty = some d) (hd : (match d with | .struct _ | .array _ _ => true | _ => false) = true) (hi : (P.info? ty).map (·.size) = some cs.size) :
    (results fn tmps).run P w = .ok (.tuple #[.agg cs, tmps.getD u undef]) w := by
  rw [results_cell_tmp h, hp]
  simp [asAddr, run_loadVar_row w g t ty cs fr d hg hu hd hi, Result.andThen]
/-- An object and names that were drawn. -/
def GotK (w : World) (e : Ending) (w' : World) : Prop := ∃ (ss : List Sp) (ms : List Sm) (K : List ByteArray) (a1 a2 ka : Option Addr) (c1 c2 kc : Nat), e = .returned (.tuple #[.agg #[.slice a1 ss.length c1, .slice a2 ms.length c2], .slice ka K.length kc]) ∧ ss.length ≤ 8 ∧ ms.length ≤ 20 ∧ (∀ y ∈ ss, y.s.small) ∧ (∀ m ∈ ms, m.small) ∧ Sects w' w'.heap.size a1 ss ∧ Syms w' w'.heap.size a2 ms ∧ Vals w' w'.heap.size ka (K.map Value.string) ∧ K.length ≤ 7 ∧ Below w.heap.size w w'
set_option maxRecDepth 100000 in
set_option maxHeartbeats 4000000 in
theorem drawHideNames_any (w : World) (a : Option Addr) (cap : Nat) (l : List Int) (h : Ints w .u8 w.heap.size a l) (hcap : l.length ≤ cap) (hlen : cap ≤ 9223372036854775807) :
    Calls Try.prog 7 #[.slice a l.length cap] w (GotK w) := by
  go_enter Try.func7, Try.ntmps7
  go_wp2_with fail
  refine (l20Open_any (w.alloc (.cells #[.slice none 0 0, .slice none 0 0] 26)) a cap l ((h.alloc (Nat.le_refl _) _).more (by simp)) hcap hlen).mono ?_
  rintro e w1 ⟨rfl, hr1, hb1⟩
  clear h
  have s0 : (w.alloc (.cells #[.slice none 0 0, .slice none 0 0] 26)).heap.size = w.heap.size + 1 := by simp
  rw [s0] at hr1 hb1
  rw [s0]
  have hres1 : Has w1 w.heap.size 26 #[.slice none 0 0, .slice none 0 0] := (Has.new w _ _).below hb1 (by omega)
  have hbw1 : Below w.heap.size w w1 := ((Below.refl _ _).alloc (Nat.le_refl _) _).trans (hb1.mono (by omega))
  have HX := hidden (l20Object_any w1 (w.heap.size + 1) (w.heap.size + 1) 0 9 hr1 (by omega) (by omega) (by omega))
  have hlt := hr1.lt
  clear hb1 s0 hr1
  go_wp2_with fail
  refine HX.out.mono ?_
  clear HX
  rintro e w5 ⟨a1, a2, c1, c2, ss, ms, rfl, h1, h2, hS, hM, hs, hr5, hg5⟩
  have hres5 : Has w5 w.heap.size 26 #[.slice none 0 0, .slice none 0 0] := hres1.grown hg5 (by simp)
  have hbw5 : Below w.heap.size w w5 := hbw1.grown hg5 hbw1.size (by intro q hq; injection hq with hq; omega)
  have hs15 := hg5.size
  obtain ⟨ns, hns⟩ : ∃ q, ss.length = q := ⟨_, rfl⟩
  obtain ⟨nm, hnm⟩ : ∃ q, ms.length = q := ⟨_, rfl⟩
  rw [hns] at h1 hS
  rw [hnm] at h2 hM
  rw [hns, hnm]
  have hx6 : Has (w5.alloc (.cells #[.slice a1 ns c1, .slice a2 nm c2] 26)) w5.heap.size 26 #[.slice a1 ns c1, .slice a2 nm c2] := Has.new _ _ _
  have hres6 := hres5.alloc (.cells #[.slice a1 ns c1, .slice a2 nm c2] 26)
  have hS6 := hS.alloc (.cells #[.slice a1 ns c1, .slice a2 nm c2] 26)
  have hM6 := hM.alloc (.cells #[.slice a1 ns c1, .slice a2 nm c2] 26)
  have hr6 := hr5.alloc (.cells #[.slice a1 ns c1, .slice a2 nm c2] 26)
  have hbw6 := hbw5.alloc hbw5.size (.cells #[.slice a1 ns c1, .slice a2 nm c2] 26)
  obtain ⟨W6, hW6⟩ : ∃ q, w5.alloc (.cells #[.slice a1 ns c1, .slice a2 nm c2] 26) = q := ⟨_, rfl⟩
  obtain ⟨q5, hq5⟩ : ∃ q, w5.heap.size = q := ⟨_, rfl⟩
  have hq5l : w.heap.size + 1 < q5 := by omega
  rw [hW6, hq5] at hx6
  rw [hW6] at hres6 hS6 hM6 hr6 hbw6
  have HNM := hidden (l20Names_any W6.drew (w.heap.size + 1) (w.heap.size + 1) (0 + 2000) 9 (hr6.drewN 1) (by omega) (by omega) (by omega))
  have x0 : W6.drew.cell? ⟨q5, 0, none⟩ = some (.slice a1 ns c1) := hx6.drew.cell 0
  have x1 : W6.drew.cell? ⟨q5, 1, none⟩ = some (.slice a2 nm c2) := hx6.drew.cell 1
  have HX6 := hidden hx6
  have HRES := hidden hres6
  have HS := hidden hS6
  have HM := hidden hM6
  have HB := hidden hbw6
  have HSM := hidden hs
  have HNS := hidden hns
  have HNN := hidden hnm
  have HW6 := hidden hW6
  have HQ5 := hidden hq5
  clear hg5 hr5 hres5 hS hM hres1 hbw1 hbw5 hx6 hres6 hS6 hM6 hr6 hbw6 hW6 hq5 hs hns hnm
  go_upto_region 3 with fail
  rw [HW6.out, HQ5.out]
  clear HW6 HQ5
  go_region_with (
    (go_at_call 30; refine HNM.out.mono ?_; rintro e w7 ⟨v, K, rfl, hrow, hks, hkl, hr7, hg7⟩;
     obtain ⟨ka, kc, rfl⟩ := own_shape hrow;
     have hg76 : W6.grownBy w7 (some (w.heap.size + 1)) := ⟨hg7.os, hg7.tape, hg7.output, hg7.size, hg7.block⟩;
     have hx7 := HX6.out.grown hg76 (by intro e; injection e with e; omega);
     have hres7 := HRES.out.grown hg76 (by intro e; injection e with e; omega);
     have y0 : w7.cell? ⟨q5, 0, none⟩ = some (.slice a1 ns c1) := hx7.cell 0;
     have y1 : w7.cell? ⟨q5, 1, none⟩ = some (.slice a2 nm c2) := hx7.cell 1;
     have r0 : w7.cell? ⟨w.heap.size, 0, none⟩ = some (.slice none 0 0) := hres7.cell 0;
     have r1 : w7.cell? ⟨w.heap.size, 1, none⟩ = some (.slice none 0 0) := hres7.cell 1;
     have u0 : w7.frozen? ⟨w.heap.size, 0, none⟩ = false := hres7.free 0;
     have u1 : w7.frozen? ⟨w.heap.size, 1, none⟩ = false := hres7.free 1;
     have HROW := hidden hrow; have HKL := hidden hkl; have HG7 := hidden hg76; have HR7 := hidden hres7;
     obtain ⟨nk, hnk⟩ : ∃ q, K.length = q := ⟨_, rfl⟩;
     have HNK := hidden hnk; rw [hnk];
     clear hrow hks hkl hr7 hg7 hg76 hx7 hres7 hnk))
  all_goals
    go_wp2_with fail
    have G0 : w7.grownBy ((w7.setCell ⟨w.heap.size, 0, none⟩ (.slice a1 ns c1)).setCell ⟨w.heap.size, 1, none⟩ (.slice a2 nm c2)) (some w.heap.size) := only_trans (only_put' 0 _) (only_put' 1 _)
    have hp : Has ((w7.setCell ⟨w.heap.size, 0, none⟩ (.slice a1 ns c1)).setCell ⟨w.heap.size, 1, none⟩ (.slice a2 nm c2)) w.heap.size 26 #[.slice a1 ns c1, .slice a2 nm c2] := (HR7.out.put 0 _).put 1 _
    have hb7 := HB.out.grown HG7.out HB.out.size (by intro q hq; injection hq with hq; omega)
    have hS7 := (HS.out.low (g := w.heap.size + 1) (by omega) HG7.out).low (g := w.heap.size) (by omega) G0
    have hM7 := (HM.out.kept HG7.out (row_high HM.out (by omega))).kept G0 (row_high (HM.out.kept HG7.out (row_high HM.out (by omega))) (by omega))
    have hK7 := World.ownsRow.kept HROW.out G0 (row_high HROW.out (by have := HB.out.size; have := HRES.out.lt; show w.heap.size < W6.heap.size; omega))
    refine bodyPost_ret (results_cell_rowK rfl _ _ w.heap.size 26 #[.slice a1 ns c1, .slice a2 nm c2] (0, 0) _ rfl hp Try.underlying26 rfl (by kernel_rfl)) rfl ?_
    have hk := vals_of_own (by rw [List.length_map]; exact hK7)
    obtain ⟨a', c', e', _, hv⟩ := hk
    rw [List.length_map] at e'
    injection e' with e1
    subst e1
    have e1 := HNS.out
    have e2 := HNN.out
    have e3 := HNK.out
    clear HNS HNN HNK
    subst e1
    subst e2
    subst e3
    exact ⟨ss, ms, K, a1, a2, _, c1, c2, kc, rfl, h1, h2, hS7.small, HSM.out, hS7.sects, syms_of_own hM7, hv, HKL.out, hb7.grown G0 hb7.size (by intro q hq; injection hq with hq; omega)⟩

end Go.Proofs.Ytlkhfgfficehcaa

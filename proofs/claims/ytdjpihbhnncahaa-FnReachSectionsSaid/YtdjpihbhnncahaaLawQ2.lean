/-
  spec.DrawHideNames: an object that was drawn, and names.
-/
import Derived.Laws.ResultCell
import Derived.Deep.RegionWith
import Derived.Deep.CutBlock
import Derived.Test.YtdjpihbhnncahaaDrawO
import Derived.Test.YtdjpihbhnncahaaRoB
import Derived.Test.YtdjpihbhnncahaaRegionV
import Derived.Test.YtdjpihbhnncahaaMarks
import Derived.Test.YtdjpihbhnncahaaCopO
import Derived.Test.YtdjpihbhnncahaaRchI
import Derived.Test.YtdjpihbhnncahaaRchS
import Derived.Test.YtdjpihbhnncahaaKepX
import Derived.Test.YtdjpihbhnncahaaLawO5
namespace Go.Proofs.Ytdjpihbhnncahaa
open Go.RowKit

theorem results_cell_rowK {P : Program} {fn : Func} {p u : Tmp} {ty : TypeId} (h : fn.results = #[.cell p ty, .tmp u]) (tmps : Array Value) (w : World) (g : Nat) (t : TypeId) (cs : Array Value) (fr : Nat × Nat) (d : TypeDesc)
    (hp : tmps.getD p undef = .pointer (some ⟨g, 0, none⟩)) (hg : w.heap[g]? = some (.cells cs t fr))
    (hu : P.underlying ty = some d) (hd : (match d with | .struct _ | .array _ _ => true | _ => false) = true) (hi : (P.info? ty).map (·.size) = some cs.size) :
    (results fn tmps).run P w = .ok (.tuple #[.agg cs, tmps.getD u undef]) w := by
  rw [results_cell_tmp h, hp]
  simp [asAddr, run_loadVar_row w g t ty cs fr d hg hu hd hi, Result.andThen]
/-- An object and names that were drawn. -/
def GotK (w : World) (e : Ending) (w' : World) : Prop := ∃ (ss : List Sp) (ms : List Sm) (K : List ByteArray) (a1 a2 ka : Option Addr) (c1 c2 kc : Nat), e = .returned (.tuple #[.agg #[.slice a1 ss.length c1, .slice a2 ms.length c2], .slice ka K.length kc]) ∧ ss.length ≤ 8 ∧ ms.length ≤ 20 ∧ (∀ y ∈ ss, y.s.small) ∧ (∀ m ∈ ms, m.small) ∧ Sects w' w'.heap.size a1 ss ∧ Syms w' w'.heap.size a2 ms ∧ Vals w' w'.heap.size ka (K.map Value.string) ∧ K.length ≤ 7 ∧ Below w.heap.size w w'
set_option maxRecDepth 100000 in
set_option maxHeartbeats 4000000 in
theorem drawHideNames_any (w : World) (a : Option Addr) (cap : Nat) (l : List Int) (h : Ints w .u8 w.heap.size a l) (hcap : l.length ≤ cap) (hlen : cap ≤ 9223372036854775807) :
    Calls Try.prog 32 #[.slice a l.length cap] w (GotK w) := by
  go_enter Try.func32, Try.ntmps32
  go_wp2_with fail
  refine (l20Open_any (w.alloc (.cells #[.slice none 0 0, .slice none 0 0] 26)) a cap l ((h.alloc (Nat.le_refl _) _).more (by simp)) hcap hlen).mono ?_
  rintro e w1 ⟨rfl, hr1, hb1⟩
  clear h
  have s0 : (w.alloc (.cells #[.slice none 0 0, .slice none 0 0] 26)).heap.size = w.heap.size + 1 := by simp
  rw [s0] at hr1 hb1
  rw [s0]
  have hres1 : Has w1 w.heap.size 26 #[.slice none 0 0, .slice none 0 0] := (Has.new w _ _).below hb1 (by omega)
  have hbw1 : Below w.heap.size w w1 := ((Below.refl _ _).alloc (Nat.le_refl _) _).trans (hb1.mono (by omega))
  have HX := hidden (l20Object_any w1 (w.heap.size + 1) (w.heap.size + 1) 0 9 hr1 (by omega) (by omega) (by omega))
  have hlt := hr1.lt
  clear hb1 s0 hr1
  go_wp2_with fail
  refine HX.out.mono ?_
  clear HX
  rintro e w5 ⟨a1, a2, c1, c2, ss, ms, rfl, h1, h2, hS, hM, hs, hr5, hg5⟩
  have hres5 : Has w5 w.heap.size 26 #[.slice none 0 0, .slice none 0 0] := hres1.grown hg5 (by simp)
  have hbw5 : Below w.heap.size w w5 := hbw1.grown hg5 hbw1.size (by intro q hq; injection hq with hq; omega)
  have hs15 := hg5.size
  obtain ⟨ns, hns⟩ : ∃ q, ss.length = q := ⟨_, rfl⟩
  obtain ⟨nm, hnm⟩ : ∃ q, ms.length = q := ⟨_, rfl⟩
  rw [hns] at h1 hS
  rw [hnm] at h2 hM
  rw [hns, hnm]
  have hx6 : Has (w5.alloc (.cells #[.slice a1 ns c1, .slice a2 nm c2] 26)) w5.heap.size 26 #[.slice a1 ns c1, .slice a2 nm c2] := Has.new _ _ _
  have hres6 := hres5.alloc (.cells #[.slice a1 ns c1, .slice a2 nm c2] 26)
  have hS6 := hS.alloc (.cells #[.slice a1 ns c1, .slice a2 nm c2] 26)
  have hM6 := hM.alloc (.cells #[.slice a1 ns c1, .slice a2 nm c2] 26)
  have hr6 := hr5.alloc (.cells #[.slice a1 ns c1, .slice a2 nm c2] 26)
  have hbw6 := hbw5.alloc hbw5.size (.cells #[.slice a1 ns c1, .slice a2 nm c2] 26)
  obtain ⟨W6, hW6⟩ : ∃ q, w5.alloc (.cells #[.slice a1 ns c1, .slice a2 nm c2] 26) = q := ⟨_, rfl⟩
  obtain ⟨q5, hq5⟩ : ∃ q, w5.heap.size = q := ⟨_, rfl⟩
  have hq5l : w.heap.size + 1 < q5 := by omega
  rw [hW6, hq5] at hx6
  rw [hW6] at hres6 hS6 hM6 hr6 hbw6
  have HNM := hidden (l20Names_any W6.drew (w.heap.size + 1) (w.heap.size + 1) (0 + 2000) 9 (hr6.drewN 1) (by omega) (by omega) (by omega))
  have x0 : W6.drew.cell? ⟨q5, 0, none⟩ = some (.slice a1 ns c1) := hx6.drew.cell 0
  have x1 : W6.drew.cell? ⟨q5, 1, none⟩ = some (.slice a2 nm c2) := hx6.drew.cell 1
  have HX6 := hidden hx6
  have HRES := hidden hres6
  have HS := hidden hS6
  have HM := hidden hM6
  have HB := hidden hbw6
  have HSM := hidden hs
  have HNS := hidden hns
  have HNN := hidden hnm
  have HW6 := hidden hW6
  have HQ5 := hidden hq5
  clear hg5 hr5 hres5 hS hM hres1 hbw1 hbw5 hx6 hres6 hS6 hM6 hr6 hbw6 hW6 hq5 hs hns hnm
  go_upto_region 3 with fail
  rw [HW6.out, HQ5.out]
  clear HW6 HQ5
  go_region_with (
    (go_at_call 70; refine HNM.out.mono ?_; rintro e w7 ⟨v, K, rfl, hrow, hks, hkl, hr7, hg7⟩;
     obtain ⟨ka, kc, rfl⟩ := own_shape hrow;
     have hg76 : W6.grownBy w7 (some (w.heap.size + 1)) := ⟨hg7.os, hg7.tape, hg7.output, hg7.size, hg7.block⟩;
     have hx7 := HX6.out.grown hg76 (by intro e; injection e with e; omega);
     have hres7 := HRES.out.grown hg76 (by intro e; injection e with e; omega);
     have y0 : w7.cell? ⟨q5, 0, none⟩ = some (.slice a1 ns c1) := hx7.cell 0;
     have y1 : w7.cell? ⟨q5, 1, none⟩ = some (.slice a2 nm c2) := hx7.cell 1;
     have r0 : w7.cell? ⟨w.heap.size, 0, none⟩ = some (.slice none 0 0) := hres7.cell 0;
     have r1 : w7.cell? ⟨w.heap.size, 1, none⟩ = some (.slice none 0 0) := hres7.cell 1;
     have u0 : w7.frozen? ⟨w.heap.size, 0, none⟩ = false := hres7.free 0;
     have u1 : w7.frozen? ⟨w.heap.size, 1, none⟩ = false := hres7.free 1;
     have HROW := hidden hrow; have HKL := hidden hkl; have HG7 := hidden hg76; have HR7 := hidden hres7;
     obtain ⟨nk, hnk⟩ : ∃ q, K.length = q := ⟨_, rfl⟩;
     have HNK := hidden hnk; rw [hnk];
     clear hrow hks hkl hr7 hg7 hg76 hx7 hres7 hnk))
  all_goals
    go_wp2_with fail
    have G0 : w7.grownBy ((w7.setCell ⟨w.heap.size, 0, none⟩ (.slice a1 ns c1)).setCell ⟨w.heap.size, 1, none⟩ (.slice a2 nm c2)) (some w.heap.size) := only_trans (only_put' 0 _) (only_put' 1 _)
    have hp : Has ((w7.setCell ⟨w.heap.size, 0, none⟩ (.slice a1 ns c1)).setCell ⟨w.heap.size, 1, none⟩ (.slice a2 nm c2)) w.heap.size 26 #[.slice a1 ns c1, .slice a2 nm c2] := (HR7.out.put 0 _).put 1 _
    have hb7 := HB.out.grown HG7.out HB.out.size (by intro q hq; injection hq with hq; omega)
    have hS7 := (HS.out.low (g := w.heap.size + 1) (by omega) HG7.out).low (g := w.heap.size) (by omega) G0
    have hM7 := (HM.out.kept HG7.out (row_high HM.out (by omega))).kept G0 (row_high (HM.out.kept HG7.out (row_high HM.out (by omega))) (by omega))
    have hK7 := World.ownsRow.kept HROW.out G0 (row_high HROW.out (by have := HB.out.size; have := HRES.out.lt; show w.heap.size < W6.heap.size; omega))
    refine bodyPost_ret (results_cell_rowK rfl _ _ w.heap.size 26 #[.slice a1 ns c1, .slice a2 nm c2] (0, 0) _ rfl hp Try.underlying26 rfl (by kernel_rfl)) rfl ?_
    have hk := vals_of_own (by rw [List.length_map]; exact hK7)
    obtain ⟨a', c', e', _, hv⟩ := hk
    rw [List.length_map] at e'
    injection e' with e1
    subst e1
    have e1 := HNS.out
    have e2 := HNN.out
    have e3 := HNK.out
    clear HNS HNN HNK
    subst e1
    subst e2
    subst e3
    exact ⟨ss, ms, K, a1, a2, _, c1, c2, kc, rfl, h1, h2, hS7.small, HSM.out, hS7.sects, syms_of_own hM7, hv, HKL.out, hb7.grown G0 hb7.size (by intro q hq; injection hq with hq; omega)⟩

end Go.Proofs.Ytdjpihbhnncahaa
namespace Go.Proofs.Ytdjpihbhnncahaa
open Go.RowKit

theorem sl_lower {W : World} {base base' : Nat} {v : Value} {l : List Sp} (h : SL W base v l) (hb : base' ≤ base) : SL W base' v l :=
  ⟨row_lower h.row hb, h.small, fun y hy => row_lower (h.own1 y hy) hb, fun y hy => row_lower (h.own2 y hy) hb⟩
/-- An object and names that were drawn, in rows of their own. -/
def GotR (w : World) (e : Ending) (w' : World) : Prop := ∃ (ss : List Sp) (ms : List Sm) (K : List ByteArray) (a1 a2 ka : Option Addr) (c1 c2 kc : Nat), e = .returned (.tuple #[.agg #[.slice a1 ss.length c1, .slice a2 ms.length c2], .slice ka K.length kc]) ∧ ss.length ≤ 8 ∧ ms.length ≤ 20 ∧ (∀ y ∈ ss, y.s.small) ∧ (∀ m ∈ ms, m.small) ∧ SL w' w.heap.size (.slice a1 ss.length c1) ss ∧ w'.ownsRow w.heap.size 59 4 (.slice a2 ms.length c2) ms.length (flatM ms) ∧ w'.ownsRow w.heap.size 9 1 (.slice ka K.length kc) K.length (K.map Value.string) ∧ K.length ≤ 7 ∧ Below w.heap.size w w'
set_option maxRecDepth 100000 in
set_option maxHeartbeats 4000000 in
theorem drawHideNames_rows (w : World) (a : Option Addr) (cap : Nat) (l : List Int) (h : Ints w .u8 w.heap.size a l) (hcap : l.length ≤ cap) (hlen : cap ≤ 9223372036854775807) :
    Calls Try.prog 32 #[.slice a l.length cap] w (GotR w) := by
  go_enter Try.func32, Try.ntmps32
  go_wp2_with fail
  refine (l20Open_any (w.alloc (.cells #[.slice none 0 0, .slice none 0 0] 26)) a cap l ((h.alloc (Nat.le_refl _) _).more (by simp)) hcap hlen).mono ?_
  rintro e w1 ⟨rfl, hr1, hb1⟩
  clear h
  have s0 : (w.alloc (.cells #[.slice none 0 0, .slice none 0 0] 26)).heap.size = w.heap.size + 1 := by simp
  rw [s0] at hr1 hb1
  rw [s0]
  have hres1 : Has w1 w.heap.size 26 #[.slice none 0 0, .slice none 0 0] := (Has.new w _ _).below hb1 (by omega)
  have hbw1 : Below w.heap.size w w1 := ((Below.refl _ _).alloc (Nat.le_refl _) _).trans (hb1.mono (by omega))
  have HX := hidden (l20Object_any w1 (w.heap.size + 1) (w.heap.size + 1) 0 9 hr1 (by omega) (by omega) (by omega))
  have hlt := hr1.lt
  clear hb1 s0 hr1
  go_wp2_with fail
  refine HX.out.mono ?_
  clear HX
  rintro e w5 ⟨a1, a2, c1, c2, ss, ms, rfl, h1, h2, hS, hM, hs, hr5, hg5⟩
  have hres5 : Has w5 w.heap.size 26 #[.slice none 0 0, .slice none 0 0] := hres1.grown hg5 (by simp)
  have hbw5 : Below w.heap.size w w5 := hbw1.grown hg5 hbw1.size (by intro q hq; injection hq with hq; omega)
  have hs15 := hg5.size
  obtain ⟨ns, hns⟩ : ∃ q, ss.length = q := ⟨_, rfl⟩
  obtain ⟨nm, hnm⟩ : ∃ q, ms.length = q := ⟨_, rfl⟩
  rw [hns] at h1 hS
  rw [hnm] at h2 hM
  rw [hns, hnm]
  have hx6 : Has (w5.alloc (.cells #[.slice a1 ns c1, .slice a2 nm c2] 26)) w5.heap.size 26 #[.slice a1 ns c1, .slice a2 nm c2] := Has.new _ _ _
  have hres6 := hres5.alloc (.cells #[.slice a1 ns c1, .slice a2 nm c2] 26)
  have hS6 := hS.alloc (.cells #[.slice a1 ns c1, .slice a2 nm c2] 26)
  have hM6 := hM.alloc (.cells #[.slice a1 ns c1, .slice a2 nm c2] 26)
  have hr6 := hr5.alloc (.cells #[.slice a1 ns c1, .slice a2 nm c2] 26)
  have hbw6 := hbw5.alloc hbw5.size (.cells #[.slice a1 ns c1, .slice a2 nm c2] 26)
  obtain ⟨W6, hW6⟩ : ∃ q, w5.alloc (.cells #[.slice a1 ns c1, .slice a2 nm c2] 26) = q := ⟨_, rfl⟩
  obtain ⟨q5, hq5⟩ : ∃ q, w5.heap.size = q := ⟨_, rfl⟩
  have hq5l : w.heap.size + 1 < q5 := by omega
  rw [hW6, hq5] at hx6
  rw [hW6] at hres6 hS6 hM6 hr6 hbw6
  have HNM := hidden (l20Names_any W6.drew (w.heap.size + 1) (w.heap.size + 1) (0 + 2000) 9 (hr6.drewN 1) (by omega) (by omega) (by omega))
  have x0 : W6.drew.cell? ⟨q5, 0, none⟩ = some (.slice a1 ns c1) := hx6.drew.cell 0
  have x1 : W6.drew.cell? ⟨q5, 1, none⟩ = some (.slice a2 nm c2) := hx6.drew.cell 1
  have HX6 := hidden hx6
  have HRES := hidden hres6
  have HS := hidden hS6
  have HM := hidden hM6
  have HB := hidden hbw6
  have HSM := hidden hs
  have HNS := hidden hns
  have HNN := hidden hnm
  have HW6 := hidden hW6
  have HQ5 := hidden hq5
  clear hg5 hr5 hres5 hS hM hres1 hbw1 hbw5 hx6 hres6 hS6 hM6 hr6 hbw6 hW6 hq5 hs hns hnm
  go_upto_region 3 with fail
  rw [HW6.out, HQ5.out]
  clear HW6 HQ5
  go_region_with (
    (go_at_call 70; refine HNM.out.mono ?_; rintro e w7 ⟨v, K, rfl, hrow, hks, hkl, hr7, hg7⟩;
     obtain ⟨ka, kc, rfl⟩ := own_shape hrow;
     have hg76 : W6.grownBy w7 (some (w.heap.size + 1)) := ⟨hg7.os, hg7.tape, hg7.output, hg7.size, hg7.block⟩;
     have hx7 := HX6.out.grown hg76 (by intro e; injection e with e; omega);
     have hres7 := HRES.out.grown hg76 (by intro e; injection e with e; omega);
     have y0 : w7.cell? ⟨q5, 0, none⟩ = some (.slice a1 ns c1) := hx7.cell 0;
     have y1 : w7.cell? ⟨q5, 1, none⟩ = some (.slice a2 nm c2) := hx7.cell 1;
     have r0 : w7.cell? ⟨w.heap.size, 0, none⟩ = some (.slice none 0 0) := hres7.cell 0;
     have r1 : w7.cell? ⟨w.heap.size, 1, none⟩ = some (.slice none 0 0) := hres7.cell 1;
     have u0 : w7.frozen? ⟨w.heap.size, 0, none⟩ = false := hres7.free 0;
     have u1 : w7.frozen? ⟨w.heap.size, 1, none⟩ = false := hres7.free 1;
     have HROW := hidden hrow; have HKL := hidden hkl; have HG7 := hidden hg76; have HR7 := hidden hres7;
     obtain ⟨nk, hnk⟩ : ∃ q, K.length = q := ⟨_, rfl⟩;
     have HNK := hidden hnk; rw [hnk];
     clear hrow hks hkl hr7 hg7 hg76 hx7 hres7 hnk))
  all_goals
    go_wp2_with fail
    have G0 : w7.grownBy ((w7.setCell ⟨w.heap.size, 0, none⟩ (.slice a1 ns c1)).setCell ⟨w.heap.size, 1, none⟩ (.slice a2 nm c2)) (some w.heap.size) := only_trans (only_put' 0 _) (only_put' 1 _)
    have hp : Has ((w7.setCell ⟨w.heap.size, 0, none⟩ (.slice a1 ns c1)).setCell ⟨w.heap.size, 1, none⟩ (.slice a2 nm c2)) w.heap.size 26 #[.slice a1 ns c1, .slice a2 nm c2] := (HR7.out.put 0 _).put 1 _
    have hb7 := HB.out.grown HG7.out HB.out.size (by intro q hq; injection hq with hq; omega)
    have hS7 := (HS.out.low (g := w.heap.size + 1) (by omega) HG7.out).low (g := w.heap.size) (by omega) G0
    have hM7 := (HM.out.kept HG7.out (row_high HM.out (by omega))).kept G0 (row_high (HM.out.kept HG7.out (row_high HM.out (by omega))) (by omega))
    have hK7 := World.ownsRow.kept HROW.out G0 (row_high HROW.out (by have := HB.out.size; have := HRES.out.lt; show w.heap.size < W6.heap.size; omega))
    refine bodyPost_ret (results_cell_rowK rfl _ _ w.heap.size 26 #[.slice a1 ns c1, .slice a2 nm c2] (0, 0) _ rfl hp Try.underlying26 rfl (by kernel_rfl)) rfl ?_
    obtain ⟨ka', kc', ek⟩ := own_shape hK7
    injection ek with ek1 ek2 ek3
    clear ek1 ek2 ek3 ka' kc'
    have e1 := HNS.out
    have e2 := HNN.out
    have e3 := HNK.out
    clear HNS HNN HNK
    subst e1
    subst e2
    subst e3
    exact ⟨ss, ms, K, a1, a2, _, c1, c2, kc, rfl, h1, h2, hS7.small, HSM.out, sl_lower hS7 (by omega), row_lower hM7 (by omega), row_lower hK7 (by show w.heap.size ≤ W6.heap.size; exact HB.out.size), HKL.out, hb7.grown G0 hb7.size (by intro q hq; injection hq with hq; omega)⟩

set_option maxRecDepth 100000 in
set_option maxHeartbeats 4000000 in
theorem drawReachSections_any (w : World) (a : Option Addr) (cap : Nat) (l : List Int) (h : Ints w .u8 w.heap.size a l) (hcap : l.length ≤ cap) (hlen : cap ≤ 9223372036854775807) :
    Calls Try.prog 7 #[.slice a l.length cap] w (GotK w) := by
  have hR : Has (w.alloc (.cells #[.slice none 0 0, .slice none 0 0] 26)) w.heap.size 26 #[.slice none 0 0, .slice none 0 0] := Has.new _ _ _
  have hB : Below w.heap.size w (w.alloc (.cells #[.slice none 0 0, .slice none 0 0] 26)) := (Below.refl _ _).alloc (Nat.le_refl _) _
  have hs : (w.alloc (.cells #[.slice none 0 0, .slice none 0 0] 26)).heap.size = w.heap.size + 1 := by simp
  have hi : Ints (w.alloc (.cells #[.slice none 0 0, .slice none 0 0] 26)) .u8 (w.alloc (.cells #[.slice none 0 0, .slice none 0 0] 26)).heap.size a l := (h.alloc (Nat.le_refl _) _).more (by simp)
  obtain ⟨W1, hW1⟩ : ∃ q, w.alloc (.cells #[.slice none 0 0, .slice none 0 0] 26) = q := ⟨_, rfl⟩
  rw [hW1] at hR hB hs hi
  have HD := hidden (drawHideNames_rows W1 a cap l hi hcap hlen)
  have HR := hidden hR
  have HB := hidden hB
  have HS := hidden hs
  have HW1 := hidden hW1
  clear h hR hB hs hi hW1
  go_enter Try.func7, Try.ntmps7
  go_upto_region 1 with fail
  rw [HW1.out]
  clear HW1
  go_wp2_with fail
  refine HD.out.mono ?_
  clear HD
  rintro e w7 ⟨ss, ms, K, a1, a2, ka, c1, c2, kc, rfl, h1, h2, h3, h4, hS, hM, hK, hk7, hb7⟩
  have hr7 := HR.out.below hb7 HR.out.lt
  have r0 : w7.cell? ⟨w.heap.size, 0, none⟩ = some (.slice none 0 0) := hr7.cell 0
  have r1 : w7.cell? ⟨w.heap.size, 1, none⟩ = some (.slice none 0 0) := hr7.cell 1
  have u0 : w7.frozen? ⟨w.heap.size, 0, none⟩ = false := hr7.free 0
  have u1 : w7.frozen? ⟨w.heap.size, 1, none⟩ = false := hr7.free 1
  obtain ⟨ns, hns⟩ : ∃ q, ss.length = q := ⟨_, rfl⟩
  obtain ⟨nm, hnm⟩ : ∃ q, ms.length = q := ⟨_, rfl⟩
  obtain ⟨nk, hnk⟩ : ∃ q, K.length = q := ⟨_, rfl⟩
  rw [hns] at h1 hS
  rw [hnm] at h2 hM
  rw [hnk] at hK hk7
  rw [hns, hnm, hnk]
  have hlt : w.heap.size < W1.heap.size := by have := HS.out; omega
  have G0 : w7.grownBy ((w7.setCell ⟨w.heap.size, 0, none⟩ (.slice a1 ns c1)).setCell ⟨w.heap.size, 1, none⟩ (.slice a2 nm c2)) (some w.heap.size) := only_trans (only_put' 0 _) (only_put' 1 _)
  have hp : Has ((w7.setCell ⟨w.heap.size, 0, none⟩ (.slice a1 ns c1)).setCell ⟨w.heap.size, 1, none⟩ (.slice a2 nm c2)) w.heap.size 26 #[.slice a1 ns c1, .slice a2 nm c2] := (hr7.put 0 _).put 1 _
  have hS7 := hS.low hlt G0
  have hM7 := hM.kept G0 (row_high hM hlt)
  have hK7 := World.ownsRow.kept hK G0 (row_high hK hlt)
  have hbw : Below w.heap.size w w7 := HB.out.trans (hb7.mono HB.out.size)
  have HF : Hid (GotK w (.returned (.tuple #[.agg #[.slice a1 ns c1, .slice a2 nm c2], .slice ka nk kc])) ((w7.setCell ⟨w.heap.size, 0, none⟩ (.slice a1 ns c1)).setCell ⟨w.heap.size, 1, none⟩ (.slice a2 nm c2))) := by
    have hb8 := hbw.grown G0 hbw.size (by intro q hq; injection hq with hq; omega)
    clear hp G0
    subst hns
    subst hnm
    subst hnk
    obtain ⟨a', c', e', _, hv⟩ := vals_of_own (by rw [List.length_map]; exact hK7)
    rw [List.length_map] at e'
    injection e' with e1
    subst e1
    exact ⟨ss, ms, K, a1, a2, _, c1, c2, kc, rfl, h1, h2, h3, h4, hS7.sects, syms_of_own hM7, hv, hk7, hb8⟩
  have HP := hidden hp
  clear hr7 hS hM hK hS7 hM7 hK7 hbw G0 hp hns hnm hnk h1 h2 h3 h4 hb7
  go_wp2_with fail
  refine bodyPost_ret (results_cell_rowK rfl _ _ w.heap.size 26 #[.slice a1 ns c1, .slice a2 nm c2] (0, 0) _ rfl HP.out Try.underlying26 rfl (by kernel_rfl)) rfl ?_
  exact HF.out

end Go.Proofs.Ytdjpihbhnncahaa
namespace Go.Proofs.Ytdjpihbhnncahaa
open Go.RowKit

section
variable {P : Program} {Q : Exit → Act → World → Prop}

/-- What an operation is: it reads, and gives this value, while at least lo and no more than k of the chain are done; or it is the k-th of the chain, and waits for the free one or not; or it is the free one, which may be done at any time (its value is counted behind the chain's). -/
inductive JobX where
  | quiet (v : Value) (lo k : Nat)
  | chain (k : Nat) (waits : Bool)
  | free (m : Nat)
def JobX.val (vals : Nat → Value) : JobX → Value
  | .quiet v _ _ => v
  | .chain k _ => vals k
  | .free m => vals m
/-- One operation's part. -/
def StepX (P : Program) (JC : Nat → Bool → World → (Nat → Value) → Prop) (Q : Exit → Act → World → Prop) (vals : Nat → Value) (o : Oper) (a : Act) : JobX → Prop
  | .quiet v lo kq => ∀ k, lo ≤ k → k ≤ kq → ∀ f w, JC k f w vals → o.wp P a w (fun a' w' => ∃ u, a' = a.put o.dst u ∧ (u = v ∧ w' = w)) (NoPanic Q)
  | .chain k wt => ∀ f w, (wt = true → f = true) → JC k f w vals → o.wp P a w (fun a' w' => ∃ u, a' = a.put o.dst u ∧ JC (k + 1) f w' (upd vals k u)) (NoPanic Q)
  | .free m => ∀ k w, JC k false w vals → o.wp P a w (fun a' w' => ∃ u, a' = a.put o.dst u ∧ JC k true w' (upd vals m u)) (NoPanic Q)
/-- What is asked of the operations, in the order of the text. -/
def SeqX (P : Program) (JC : Nat → Bool → World → (Nat → Value) → Prop) (Q : Exit → Act → World → Prop) (vals : Nat → Value) : List Oper → List JobX → Act → Prop
  | o :: l, j :: js, a => StepX P JC Q vals o a j ∧ SeqX P JC Q vals l js (a.put o.dst (j.val vals))
  | _, _, _ => True
theorem SeqX.get {JC : Nat → Bool → World → (Nat → Value) → Prop} {vals : Nat → Value} : ∀ (l : List Oper) (js : List JobX) (a : Act), SeqX P JC Q vals l js a → ∀ (i : Nat) (o : Oper) (j : JobX), l[i]? = some o → js[i]? = some j → StepX P JC Q vals o (putAll a (l.take i) ((js.take i).map (JobX.val vals))) j
  | [], _, _, _, i, o, j, h, _ => by simp at h
  | _ :: _, [], _, _, i, o, j, _, h => by simp at h
  | x :: l, y :: js, a, h, i, o, j, ho, hj => by
    obtain ⟨h1, h2⟩ := h
    cases i with
    | zero => simp at ho hj; subst ho; subst hj; exact h1
    | succ i => have := SeqX.get l js _ h2 i o j (by simpa using ho) (by simpa using hj); simpa [putAll] using this
def JobX.isChain (k : Nat) : JobX → Bool
  | .chain j _ => j == k
  | _ => false
def JobX.isFree : JobX → Bool
  | .free _ => true
  | _ => false
/-- The region's form besides fitsV2's: no guards; the chain is one: each waits for the one before, each number stands once; what a reader gives is taken by the one of the chain at its bound, and it waits for the one of the chain ahead of its first bound; one is free at most, and is waited for where that is said. -/
def fitsX (ops : List Oper) (js : List JobX) (m : Nat) : Bool :=
  decide (js.length = ops.length) && ops.all (fun o => o.guard.isNone) &&
  ((List.range m).all fun k => js.any (JobX.isChain k)) &&
  ((js.zipIdx.all fun x => match x.1 with
    | .chain k wt => decide (k < m) && (js.zipIdx.all fun y => !(JobX.isChain k y.1) || decide (y.2 = x.2)) && (k == 0 || ((ops[x.2]?).map fun o => o.after.any fun e => Region.binds .any e && ((js[e.on]?).map (JobX.isChain (k - 1))).getD false).getD false) && (!wt || ((ops[x.2]?).map fun o => o.after.any fun e => Region.binds .any e && ((js[e.on]?).map JobX.isFree).getD false).getD false)
    | .quiet _ lo kq => (js.zipIdx.all fun y => !(JobX.isChain kq y.1) || ((ops[y.2]?).map fun o => o.after.any fun e => Region.binds .any e && e.on == x.2).getD false) && (lo == 0 || ((ops[x.2]?).map fun o => o.after.any fun e => Region.binds .any e && ((js[e.on]?).map (JobX.isChain (lo - 1))).getD false).getD false)
    | .free n => decide (n = m) && (js.zipIdx.all fun y => !(JobX.isFree y.1) || decide (y.2 = x.2))))
/-- Between two operations. -/
structure GoingX (l : List Oper) (js : List JobX) (m : Nat) (JC : Nat → Bool → World → (Nat → Value) → Prop) (a0 : Act) (listed : Array Bool) (a : Act) (w : World) (k : Nat) (f : Bool) (vals : Nat → Value) : Prop where
  world : JC k f w vals
  le : k ≤ m
  chain : ∀ (i kk : Nat) (wt : Bool), js[i]? = some (.chain kk wt) → (listed.getD i false = true ↔ kk < k)
  free : ∀ (i n : Nat), js[i]? = some (.free n) → (listed.getD i false = true ↔ f = true)
  down : ∀ (u : Nat) (o : Oper), listed.getD u false = true → l[u]? = some o → ∀ e ∈ o.after, Region.binds .any e = true → listed.getD e.on false = true
  defers : a.defers = a0.defers
  size : a.tmps.size = a0.tmps.size
  others : ∀ s, (∀ (i : Nat) (o : Oper), l[i]? = some o → o.dst ≠ some s) → a.tmps.getD s undef = a0.tmps.getD s undef
  done : ∀ (i : Nat) (o : Oper) (d : Nat) (j : JobX), l[i]? = some o → listed.getD i false = true → o.dst = some d → js[i]? = some j → a.tmps.getD d undef = j.val vals
  still : ∀ (i : Nat) (o : Oper) (d : Nat), l[i]? = some o → listed.getD i false ≠ true → o.dst = some d → a.tmps.getD d undef = a0.tmps.getD d undef
theorem wp_region_free {l : List Oper} {js : List JobX} {m : Nat} {id : Nat} {a0 : Act} {w0 : World} (hm : P.follows .mixedOrders = true) (JC : Nat → Bool → World → (Nat → Value) → Prop) (hok : fitsV2 l a0.tmps.size = true) (hokw : fitsX l js m = true)
    (hJ : ∃ vals, JC 0 false w0.drew vals) (h : ∀ vals, SeqX P JC Q vals l js a0) (hfin : ∀ f w vals, (js.any JobX.isFree = true → f = true) → JC m f w vals → Q .normal (putAll a0 l (js.map (JobX.val vals))) w) : (Code.region id l.toArray true).wp P Q a0 w0 := by
  unfold fitsX at hokw
  simp only [Bool.and_eq_true, decide_eq_true_eq] at hokw
  obtain ⟨⟨⟨hjl, hg0⟩, hex⟩, hch⟩ := hokw
  have hguard : ∀ (i : Nat) (o : Oper), l[i]? = some o → o.guard = none := by
    intro i o ho
    rw [List.all_eq_true] at hg0
    have := hg0 o (List.mem_of_getElem? ho)
    simpa using this
  have hexk : ∀ k, k < m → ∃ i : Nat, ∃ wt, js[i]? = some (JobX.chain k wt) := by
    intro k hk
    rw [List.all_eq_true] at hex
    have := hex k (List.mem_range.2 hk)
    rw [List.any_eq_true] at this
    obtain ⟨j, hj, hc⟩ := this
    obtain ⟨i, hi⟩ := List.mem_iff_getElem?.1 hj
    cases j with
    | quiet v lo kq => simp [JobX.isChain] at hc
    | chain k' wt => simp [JobX.isChain] at hc; subst hc; exact ⟨i, wt, hi⟩
    | free n => simp [JobX.isChain] at hc
  have hone : ∀ (i j k : Nat) (wt wt' : Bool), js[i]? = some (.chain k wt) → js[j]? = some (.chain k wt') → j = i := by
    intro i j k wt wt' hi hj
    rw [List.all_eq_true] at hch
    have := hch (.chain k wt, i) (by rw [List.mem_zipIdx_iff_getElem?]; exact hi)
    simp only [Bool.and_eq_true, List.all_eq_true] at this
    have := this.1.1.2 (.chain k wt', j) (by rw [List.mem_zipIdx_iff_getElem?]; exact hj)
    simpa [JobX.isChain] using this
  have hlt : ∀ (i k : Nat) (wt : Bool), js[i]? = some (.chain k wt) → k < m := by
    intro i k wt hi
    rw [List.all_eq_true] at hch
    have := hch (.chain k wt, i) (by rw [List.mem_zipIdx_iff_getElem?]; exact hi)
    simp only [Bool.and_eq_true, decide_eq_true_eq] at this
    exact this.1.1.1
  have hprev0 : ∀ (k : Nat) (o : Oper), (o.after.any fun e => Region.binds .any e && ((js[e.on]?).map (JobX.isChain k)).getD false) = true → ∃ e ∈ o.after, Region.binds .any e = true ∧ ∃ wt, js[e.on]? = some (.chain k wt) := by
    intro k o h
    simp only [Array.any_eq_true, Bool.and_eq_true] at h
    obtain ⟨q, hq, hb, hc⟩ := h
    refine ⟨_, Array.getElem_mem hq, hb, ?_⟩
    rcases hjo : js[(o.after[q]).on]? with _ | j
    · rw [hjo] at hc; simp at hc
    · rw [hjo] at hc
      cases j with
      | quiet v lo kq => simp [JobX.isChain] at hc
      | chain k' wt => simp [JobX.isChain] at hc; subst hc; exact ⟨wt, rfl⟩
      | free n => simp [JobX.isChain] at hc
  have hprev : ∀ (i k : Nat) (wt : Bool) (o : Oper), js[i]? = some (.chain (k + 1) wt) → l[i]? = some o → ∃ e ∈ o.after, Region.binds .any e = true ∧ ∃ wt, js[e.on]? = some (.chain k wt) := by
    intro i k wt o hi ho
    rw [List.all_eq_true] at hch
    have := hch (.chain (k + 1) wt, i) (by rw [List.mem_zipIdx_iff_getElem?]; exact hi)
    simp only [Bool.and_eq_true, Nat.add_sub_cancel, ho, Option.map_some, Option.getD_some, Bool.or_eq_true] at this
    rcases this.1.2 with h0 | h0
    · simp at h0
    · exact hprev0 k o (by simpa using h0)
  have hfirst : ∀ (i lo kq : Nat) (v : Value) (o : Oper), js[i]? = some (.quiet v (lo + 1) kq) → l[i]? = some o → ∃ e ∈ o.after, Region.binds .any e = true ∧ ∃ wt, js[e.on]? = some (.chain lo wt) := by
    intro i lo kq v o hi ho
    rw [List.all_eq_true] at hch
    have := hch (.quiet v (lo + 1) kq, i) (by rw [List.mem_zipIdx_iff_getElem?]; exact hi)
    simp only [Bool.and_eq_true, Nat.add_sub_cancel, ho, Option.map_some, Option.getD_some, Bool.or_eq_true] at this
    rcases this.2 with h0 | h0
    · simp at h0
    · exact hprev0 lo o (by simpa using h0)
  have hwait : ∀ (i k : Nat) (o : Oper), js[i]? = some (.chain k true) → l[i]? = some o → ∃ e ∈ o.after, Region.binds .any e = true ∧ ∃ n, js[e.on]? = some (.free n) := by
    intro i k o hi ho
    rw [List.all_eq_true] at hch
    have := hch (.chain k true, i) (by rw [List.mem_zipIdx_iff_getElem?]; exact hi)
    simp only [Bool.and_eq_true, Bool.not_true, Bool.false_or, ho, Option.map_some, Option.getD_some, Array.any_eq_true] at this
    obtain ⟨q, hq, hb, hc⟩ := this.2
    refine ⟨_, Array.getElem_mem hq, hb, ?_⟩
    rcases hjo : js[(o.after[q]).on]? with _ | j
    · rw [hjo] at hc; simp at hc
    · rw [hjo] at hc
      cases j with
      | quiet v lo kq => simp [JobX.isFree] at hc
      | chain k' wt => simp [JobX.isFree] at hc
      | free n => exact ⟨n, rfl⟩
  have hfreeone : ∀ (i j n n' : Nat), js[i]? = some (.free n) → js[j]? = some (.free n') → j = i ∧ n = m ∧ n' = m := by
    intro i j n n' hi hj
    rw [List.all_eq_true] at hch
    have h1 := hch (.free n, i) (by rw [List.mem_zipIdx_iff_getElem?]; exact hi)
    have h2 := hch (.free n', j) (by rw [List.mem_zipIdx_iff_getElem?]; exact hj)
    simp only [Bool.and_eq_true, List.all_eq_true, decide_eq_true_eq] at h1 h2
    have := h1.2 (.free n', j) (by rw [List.mem_zipIdx_iff_getElem?]; exact hj)
    exact ⟨by simpa [JobX.isFree] using this, h1.1, h2.1⟩
  have htake : ∀ (i j lo kq : Nat) (v : Value) (wt : Bool) (o : Oper), js[i]? = some (.quiet v lo kq) → js[j]? = some (.chain kq wt) → l[j]? = some o → ∃ e ∈ o.after, Region.binds .any e = true ∧ e.on = i := by
    intro i j lo kq v wt o hi hj ho
    rw [List.all_eq_true] at hch
    have := hch (.quiet v lo kq, i) (by rw [List.mem_zipIdx_iff_getElem?]; exact hi)
    simp only [Bool.and_eq_true, List.all_eq_true] at this
    have := this.1 (.chain kq wt, j) (by rw [List.mem_zipIdx_iff_getElem?]; exact hj)
    simp only [JobX.isChain, beq_self_eq_true, Bool.not_true, Bool.false_or, ho, Option.map_some, Option.getD_some, Array.any_eq_true, Bool.and_eq_true] at this
    obtain ⟨q, hq, hb, hc⟩ := this
    exact ⟨_, Array.getElem_mem hq, hb, by simpa using hc⟩
  unfold fitsV2 at hok
  simp only [Bool.and_eq_true, decide_eq_true_eq] at hok
  obtain ⟨⟨⟨⟨h1, h2⟩, h3⟩, h4⟩, h5⟩ := hok
  have hsel : ∀ (i : Nat) (o : Oper), l[i]? = some o → ∀ cs b, o.op ≠ .select cs b := by
    intro i o ho cs b hb
    rw [List.all_eq_true] at h1
    have := h1 o (List.mem_of_getElem? ho)
    rw [hb] at this
    simp at this
  have hback : ∀ (i : Nat) (o : Oper), l[i]? = some o → ∀ e ∈ o.after, Region.binds .any e = true → e.on < i := by
    intro i o ho e he hbd
    rw [List.all_eq_true] at h2
    have := h2 (o, i) (by rw [List.mem_zipIdx_iff_getElem?]; exact ho)
    simp only [Array.all_eq_true] at this
    obtain ⟨k, hk, rfl⟩ := Array.getElem_of_mem he
    have := this k hk
    rw [hbd] at this
    simpa using this
  have hdst : ∀ (i j : Nat) (oi oj : Oper) (d : Nat), l[i]? = some oi → l[j]? = some oj → oi.dst = some d → oj.dst = some d → i = j := nodup_dst l h3
  have hsz : ∀ (i : Nat) (o : Oper) (d : Nat), l[i]? = some o → o.dst = some d → d < a0.tmps.size := by
    intro i o d ho hd
    rw [List.all_eq_true] at h4
    have := h4 o (List.mem_of_getElem? ho)
    rw [hd] at this
    simpa using this
  have hlook : ∀ (i j : Nat) (oi oj : Oper) (s : Nat), l[i]? = some oi → s ∈ oi.looksAt l.toArray → l[j]? = some oj → oj.dst = some s → (j < i ∧ ∃ e ∈ oi.after, e.on = j ∧ Region.binds .any e = true) ∨ (i < j ∧ ∃ e ∈ oj.after, e.on = i ∧ Region.binds .any e = true) := by
    intro i j oi oj s hi hs hj hd
    rw [List.all_eq_true] at h5
    have := h5 (oi, i) (by rw [List.mem_zipIdx_iff_getElem?]; exact hi)
    rw [List.all_eq_true] at this
    have := this s hs
    rw [List.all_eq_true] at this
    have := this (oj, j) (by rw [List.mem_zipIdx_iff_getElem?]; exact hj)
    simp only [hd, bne_self_eq_false, Bool.false_or, Bool.or_eq_true, Bool.and_eq_true, decide_eq_true_eq, Array.any_eq_true] at this
    rcases this with ⟨hlt, k, hk, he⟩ | ⟨hlt, k, hk, he⟩
    · exact .inl ⟨hlt, _, Array.getElem_mem hk, by simpa using he.1, he.2⟩
    · exact .inr ⟨hlt, _, Array.getElem_mem hk, by simpa using he.1, he.2⟩
  have hN : l.toArray.size = l.length := by simp
  have hjob : ∀ i, i < l.length → ∃ j : JobX, js[i]? = some j := fun i hi => ⟨_, List.getElem?_eq_getElem (by rw [hjl]; exact hi)⟩
  have key : ∀ (fuel : Nat) (listed : Array Bool) (a : Act) (w : World) (k : Nat) (f : Bool) (vals : Nat → Value), listed.size = l.toArray.size → ((List.range l.toArray.size).filter fun j => !listed.getD j true).length ≤ fuel → fuel ≤ l.toArray.size → GoingX l js m JC a0 listed a w k f vals →
      wpAny P .any l.toArray Q fuel listed a w := by
    have last : ∀ (listed : Array Bool) (a : Act) (w : World) (k : Nat) (f : Bool) (vals : Nat → Value), listed.size = l.toArray.size → Region.ready .any l.toArray listed = [] → GoingX l js m JC a0 listed a w k f vals → Q .normal a w := by
      intro listed a w k f vals hs hr hg
      have all : ∀ i, i < l.length → listed.getD i false = true := by
        intro i
        induction i using Nat.strongRecOn with
        | ind i ih =>
          intro hi
          rcases hb : listed.getD i false with _ | _
          · exfalso
            have hmem : i ∈ Region.ready .any l.toArray listed := by
              unfold Region.ready
              simp only [List.mem_filter, List.mem_range, Bool.and_eq_true]
              refine ⟨by rw [hN]; exact hi, ?_, ?_⟩
              · have : listed.getD i true = listed.getD i false := by
                  simp [Array.getD_eq_getD_getElem?, Array.getElem?_eq_getElem (show i < listed.size by omega)]
                rw [this, hb]; rfl
              · have hlo : l.toArray[i]? = some l[i] := by simp [hi]
                rw [hlo]
                simp only [Option.map_some, Option.getD_some, Array.all_eq_true]
                intro j hj
                rcases hbd : Region.binds .any (l[i].after[j]) with _ | _
                · simp
                · have hlt := hback i l[i] (List.getElem?_eq_getElem hi) (l[i].after[j]) (Array.getElem_mem hj) hbd
                  have := ih _ hlt (by omega)
                  simp [this]
            rw [hr] at hmem; simp at hmem
          · rfl
      have hkm : k = m := by
        rcases Nat.lt_or_ge k m with h1 | h1
        · obtain ⟨i, wt, hi⟩ := hexk k h1
          have hil : i < l.length := by
            rcases Nat.lt_or_ge i js.length with h | h
            · rw [← hjl]; exact h
            · rw [List.getElem?_eq_none h] at hi; cases hi
          have := (hg.chain i k wt hi).1 (all i hil)
          omega
        · exact Nat.le_antisymm hg.le h1
      have e : a = putAll a0 l (js.map (JobX.val vals)) := by
        have et : a.tmps = (putAll a0 l (js.map (JobX.val vals))).tmps := by
          apply Array.ext
          · rw [hg.size, putAll_size]
          · intro s hs1 hs2
            have : a.tmps.getD s undef = (putAll a0 l (js.map (JobX.val vals))).tmps.getD s undef := by
              by_cases hx : ∃ (i : Nat) (o : Oper), l[i]? = some o ∧ o.dst = some s
              · obtain ⟨i, o, ho, hd⟩ := hx
                have hil : i < l.length := by
                  rcases Nat.lt_or_ge i l.length with h | h
                  · exact h
                  · rw [List.getElem?_eq_none h] at ho; cases ho
                obtain ⟨j, hj⟩ := hjob i hil
                rw [hg.done i o s j ho (all i hil) hd hj, putAll_at l _ a0 s i o (j.val vals) ho hd (by rw [List.getElem?_map, hj]; rfl) (hsz i o s ho hd) (fun k' o' hk hd' => hdst k' i o' o s hk ho hd' hd)]
              · have hx' : ∀ (i : Nat) (o : Oper), l[i]? = some o → o.dst ≠ some s := fun i o ho hd => hx ⟨i, o, ho, hd⟩
                rw [hg.others s hx', putAll_other l _ a0 s hx']
            simpa [Array.getD_eq_getD_getElem?, hs1, hs2] using this
        have ed : a.defers = (putAll a0 l (js.map (JobX.val vals))).defers := by rw [hg.defers, putAll_defers]
        cases a; cases hp : putAll a0 l (js.map (JobX.val vals))
        rw [hp] at et ed
        simp only at et ed
        rw [et, ed]
      rw [e]
      refine hfin f w vals (fun hany => ?_) (hkm ▸ hg.world)
      rw [List.any_eq_true] at hany
      obtain ⟨j, hjm, hjf⟩ := hany
      obtain ⟨i, hi⟩ := List.mem_iff_getElem?.1 hjm
      cases j with
      | quiet v lo kq => simp [JobX.isFree] at hjf
      | chain k' wt => simp [JobX.isFree] at hjf
      | free n =>
        have hil : i < l.length := by
          rcases Nat.lt_or_ge i js.length with h | h
          · rw [← hjl]; exact h
          · rw [List.getElem?_eq_none h] at hi; cases hi
        exact (hg.free i n hi).1 (all i hil)
    intro fuel
    induction fuel with
    | zero =>
      intro listed a w k f vals hs hn hfu hg
      have hr : Region.ready .any l.toArray listed = [] := by
        have h0 : ((List.range l.toArray.size).filter fun j => !listed.getD j true) = [] := List.eq_nil_of_length_eq_zero (by omega)
        unfold Region.ready
        rw [List.filter_eq_nil_iff] at h0 ⊢
        intro j hj hc
        exact h0 j hj (by simp only [Bool.and_eq_true] at hc; exact hc.1)
      exact ⟨hr, last listed a w k f vals hs hr hg⟩
    | succ fuel ih =>
      intro listed a w k f vals hs hn hfu hg
      refine ⟨fun hr => last listed a w k f vals hs hr hg, fun i hi => ?_⟩
      unfold Region.ready at hi
      simp only [List.mem_filter, List.mem_range, Bool.and_eq_true] at hi
      obtain ⟨hlt0, hu, haf⟩ := hi
      have hlt' : i < l.length := by rw [← hN]; exact hlt0
      have ho : l.toArray[i]? = some l[i] := by simp [hlt']
      have hol : l[i]? = some l[i] := List.getElem?_eq_getElem hlt'
      have hu' : listed.getD i true = false := by simpa using hu
      have hfi : listed.getD i false ≠ true := by
        intro h
        have : listed.getD i true = listed.getD i false := by
          simp [Array.getD_eq_getD_getElem?, Array.getElem?_eq_getElem (show i < listed.size by omega)]
        rw [hu', h] at this; cases this
      have hpre : ∀ e ∈ l[i].after, Region.binds .any e = true → listed.getD e.on false = true := by
        intro e he hbind
        rw [ho] at haf
        simp only [Option.map_some, Option.getD_some, Array.all_eq_true] at haf
        obtain ⟨q, hq, rfl⟩ := Array.getElem_of_mem he
        have := haf q hq
        simpa [hbind] using this
      obtain ⟨job, hj⟩ := hjob i hlt'
      have hst := SeqX.get l js a0 (h vals) i l[i] job hol hj
      obtain ⟨A, hA⟩ : ∃ A, putAll a0 (l.take i) ((js.take i).map (JobX.val vals)) = A := ⟨_, rfl⟩
      rw [hA] at hst
      have hAs : A.tmps.size = a0.tmps.size := by rw [← hA, putAll_size]
      have look : ∀ s ∈ l[i].looksAt l.toArray, A.tmps.getD s undef = a.tmps.getD s undef := by
        intro s hsl
        by_cases hx : ∃ (j : Nat) (o : Oper), l[j]? = some o ∧ o.dst = some s
        · obtain ⟨j, o, hj2, hd⟩ := hx
          rcases hlook i j l[i] o s hol hsl hj2 hd with ⟨hji, e, he, hej, heb⟩ | ⟨hij, e, he, hei, heb⟩
          · obtain ⟨jj, hjj⟩ := hjob j (by omega)
            have hls := hpre e he heb
            rw [hej] at hls
            rw [hg.done j o s jj hj2 hls hd hjj, ← hA]
            refine putAll_at _ _ a0 s j o _ (by rw [List.getElem?_take_of_lt hji]; exact hj2) hd (by rw [List.getElem?_map, List.getElem?_take_of_lt hji, hjj]; rfl) (hsz j o s hj2 hd) (fun k' o' hk hd' => ?_)
            rw [List.getElem?_take] at hk
            split at hk
            · exact hdst k' j o' o s hk hj2 hd' hd
            · cases hk
          · have hjn : listed.getD j false ≠ true := fun h => by
              have := hg.down j o h hj2 e he heb
              rw [hei] at this
              exact hfi this
            rw [hg.still j o s hj2 hjn hd, ← hA]
            refine putAll_other _ _ a0 s (fun k' o' hk hd' => ?_)
            rw [List.getElem?_take] at hk
            split at hk
            · have := hdst k' j o' o s hk hj2 hd' hd; omega
            · cases hk
        · have hx' : ∀ (i : Nat) (o : Oper), l[i]? = some o → o.dst ≠ some s := fun i o ho hd => hx ⟨i, o, ho, hd⟩
          rw [hg.others s hx', ← hA, putAll_other _ _ a0 s (fun k' o' hk => by
            rw [List.getElem?_take] at hk
            split at hk
            · exact hx' k' o' hk
            · cases hk)]
      have hexec : execOp A.eval l[i] = execOp a.eval l[i] := by
        refine execOp_congr l[i] (hsel i l[i] hol) fun x hx => ?_
        cases x with
        | tmp t =>
          refine look t ?_
          unfold Oper.looksAt
          exact List.mem_append_left _ (List.mem_filterMap.2 ⟨.tmp t, by simpa using hx, rfl⟩)
        | _ => rfl
      have hset : ∀ u, (listed.setIfInBounds i true).getD u false = true ↔ u = i ∨ listed.getD u false = true := by
        intro u
        by_cases hui : i = u
        · subst hui
          simp [Array.getD_eq_getD_getElem?, hs, hlt']
        · have hne : ¬ u = i := fun e => hui e.symm
          simp [Array.getD_eq_getD_getElem?, hui, hne]
      have go : ∀ (w' : World) (u : Value) (k' : Nat) (f' : Bool) (vals' : Nat → Value), JC k' f' w' vals' → k' ≤ m → (∀ (i' kk : Nat) (wt : Bool), js[i']? = some (.chain kk wt) → ((listed.setIfInBounds i true).getD i' false = true ↔ kk < k')) → (∀ (i' n : Nat), js[i']? = some (.free n) → ((listed.setIfInBounds i true).getD i' false = true ↔ f' = true)) →
          (∀ (i' : Nat) (j' : JobX), js[i']? = some j' → listed.getD i' false = true → j'.val vals' = j'.val vals) → job.val vals' = u → wpAny P .any l.toArray Q fuel (listed.setIfInBounds i true) (a.put l[i].dst u) w' := fun w' u k' f' vals' hw' hk' hc' hf' hv' hu2 => by
        refine ih _ _ _ k' f' vals' (by simp [hs]) (open_less hlt0 hs hu' hn) (by omega) ⟨hw', hk', hc', hf', ?_, by rw [put_defers', hg.defers], by rw [put_size, hg.size], fun s hs' => ?_, fun j oj d jj hjl' hlj hd hjj => ?_, fun j oj d hjl' hlj hd => ?_⟩
        · intro v o hv hov e he hbd
          rw [hset] at hv ⊢
          rcases hv with rfl | hv
          · rw [hol] at hov; injection hov with hov; subst hov
            exact .inr (hpre e he hbd)
          · exact .inr (hg.down v o hv hov e he hbd)
        · rw [put_ne a u (hs' i l[i] hol), hg.others s hs']
        · by_cases hji : i = j
          · subst hji
            rw [hol] at hjl'; injection hjl' with hjl'
            rw [← hjl'] at hd
            rw [hj] at hjj; injection hjj with hjj
            rw [hd, ← hjj, hu2]
            exact put_eq a u (by rw [hg.size]; exact hsz i _ d hol hd)
          · have hl' : listed.getD j false = true := by
              simpa [Array.getD_eq_getD_getElem?, Array.getElem?_setIfInBounds, hji] using hlj
            rw [put_ne a u (fun e => hji (hdst i j _ _ d hol hjl' e hd)), hg.done j oj d jj hjl' hl' hd hjj]
            exact (hv' j jj hjj hl').symm
        · have hji : i ≠ j := fun e => hlj (by rw [hset]; exact .inl e.symm)
          rw [put_ne a u (fun e => hji (hdst i j _ _ d hol hjl' e hd))]
          exact hg.still j oj d hjl' (fun h => hlj (by rw [hset]; exact .inr h)) hd
      unfold wpOp
      rw [ho]
      have hw : Region.wanted l[i] (yielded l.toArray a.tmps) = true := by
        unfold Region.wanted; rw [hguard i _ hol]
      simp only [hw, if_true]
      cases job with
      | quiet v lo kq =>
        have hkq : k ≤ kq := by
          rcases Nat.lt_or_ge kq k with h1 | h1
          · exfalso
            obtain ⟨j, wt, hjc⟩ := hexk kq (Nat.lt_of_lt_of_le h1 hg.le)
            have hjl2 : j < l.length := by
              rcases Nat.lt_or_ge j js.length with h | h
              · rw [← hjl]; exact h
              · rw [List.getElem?_eq_none h] at hjc; cases hjc
            obtain ⟨e, he, hb, hei⟩ := htake i j lo kq v wt l[j] hj hjc (List.getElem?_eq_getElem hjl2)
            have := hg.down j l[j] ((hg.chain j kq wt hjc).2 h1) (List.getElem?_eq_getElem hjl2) e he hb
            rw [hei] at this
            exact hfi this
          · exact h1
        have hlo : lo ≤ k := by
          rcases Nat.eq_zero_or_pos lo with h0 | h0
          · omega
          · obtain ⟨lp, rfl⟩ : ∃ lp, lo = lp + 1 := ⟨lo - 1, by omega⟩
            obtain ⟨e, he, hb, wt, hep⟩ := hfirst i lp kq v l[i] hj hol
            have := (hg.chain e.on lp wt hep).1 (hpre e he hb)
            omega
        refine .inl (Oper.wp_mono ?_ (wp_other' hexec (by rw [hg.size, hAs]) (hst k hlo hkq f w hg.world)))
        rintro a' w' ⟨u, rfl, rfl, rfl⟩
        refine go _ _ k f vals hg.world hg.le (fun i' kk wt hi' => ?_) (fun i' n hi' => ?_) (fun _ _ _ _ => rfl) rfl
        · rw [hset, ← hg.chain i' kk wt hi']
          constructor
          · rintro (rfl | h1)
            · rw [hj] at hi'; cases hi'
            · exact h1
          · exact .inr
        · rw [hset, ← hg.free i' n hi']
          constructor
          · rintro (rfl | h1)
            · rw [hj] at hi'; cases hi'
            · exact h1
          · exact .inr
      | chain kk wt =>
        have hkk : kk = k := by
          have h1 : ¬ kk < k := fun h1 => hfi ((hg.chain i kk wt hj).2 h1)
          rcases Nat.lt_or_ge k kk with h2 | h2
          · exfalso
            obtain ⟨kp, rfl⟩ : ∃ kp, kk = kp + 1 := ⟨kk - 1, by omega⟩
            obtain ⟨e, he, hb, wt', hep⟩ := hprev i kp wt l[i] hj hol
            have := (hg.chain e.on kp wt' hep).1 (hpre e he hb)
            omega
          · omega
        subst hkk
        have hwt : wt = true → f = true := fun hw => by
          subst hw
          obtain ⟨e, he, hb, n, hen⟩ := hwait i kk l[i] hj hol
          exact (hg.free e.on n hen).1 (hpre e he hb)
        have hkm' : kk < m := hlt i kk wt hj
        refine .inl (Oper.wp_mono ?_ (wp_other' hexec (by rw [hg.size, hAs]) (hst f w hwt hg.world)))
        rintro a' w' ⟨u, rfl, hjc⟩
        refine go _ u (kk + 1) f (upd vals kk u) hjc hkm' (fun i' kk' wt' hi' => ?_) (fun i' n hi' => ?_) (fun i' j' hi' hl' => ?_) (by simp [JobX.val, upd])
        · rw [hset, hg.chain i' kk' wt' hi']
          constructor
          · rintro (rfl | h1)
            · rw [hj] at hi'; injection hi' with hi'; injection hi' with hi'; omega
            · omega
          · intro h1
            rcases Nat.lt_or_ge kk' kk with h2 | h2
            · exact .inr h2
            · have : kk' = kk := by omega
              subst this
              exact .inl (hone i i' kk' wt wt' hj hi')
        · rw [hset, ← hg.free i' n hi']
          constructor
          · rintro (rfl | h1)
            · rw [hj] at hi'; cases hi'
            · exact h1
          · exact .inr
        · cases j' with
          | quiet v lo kq => rfl
          | chain k2 wt2 =>
            have := (hg.chain i' k2 wt2 hi').1 hl'
            simp [JobX.val, upd, show k2 ≠ kk by omega]
          | free n =>
            have := (hfreeone i' i' n n hi' hi').2.1
            simp [JobX.val, upd, show n ≠ kk by omega]
      | free n =>
        have hnm : n = m := (hfreeone i i n n hj hj).2.1
        subst hnm
        have hff : f = false := by
          cases hf : f with
          | false => rfl
          | true => exact absurd ((hg.free i n hj).2 hf) hfi
        subst hff
        refine .inl (Oper.wp_mono ?_ (wp_other' hexec (by rw [hg.size, hAs]) (hst k w hg.world)))
        rintro a' w' ⟨u, rfl, hjc⟩
        refine go _ u k true (upd vals n u) hjc hg.le (fun i' kk' wt' hi' => ?_) (fun i' n' hi' => ?_) (fun i' j' hi' hl' => ?_) (by simp [JobX.val, upd])
        · rw [hset, hg.chain i' kk' wt' hi']
          constructor
          · rintro (rfl | h1)
            · rw [hj] at hi'; cases hi'
            · exact h1
          · exact .inr
        · rw [hset]
          exact ⟨fun _ => rfl, fun _ => .inl (hfreeone i i' n n' hj hi').1⟩
        · cases j' with
          | quiet v lo kq => rfl
          | chain k2 wt2 =>
            have := hlt i' k2 wt2 hi'
            simp [JobX.val, upd, show k2 ≠ n by omega]
          | free n' =>
            exfalso
            have := (hg.free i' n' hi').1 hl'
            cases this
  obtain ⟨vals0, hJ0⟩ := hJ
  refine wp_region_any hm (key l.toArray.size _ a0 w0.drew 0 false vals0 (by simp) ?_ (Nat.le_refl _) ⟨hJ0, Nat.zero_le _, fun i kk _ _ => ?_, fun i n _ => ?_, fun u o hl => ?_, rfl, rfl, fun _ _ => rfl, fun i o d v ho hl _ _ => ?_, fun _ _ _ _ _ _ => rfl⟩)
  · exact Nat.le_trans (List.length_filter_le _ _) (by simp)
  · constructor
    · intro hl
      exfalso
      by_cases hu : i < l.length <;> simp [Array.getD_eq_getD_getElem?, hu] at hl
    · intro h; omega
  · constructor
    · intro hl
      exfalso
      by_cases hu : i < l.length <;> simp [Array.getD_eq_getD_getElem?, hu] at hl
    · intro h; cases h
  · exfalso
    by_cases hu : u < l.length <;> simp [Array.getD_eq_getD_getElem?, hu] at hl
  · exfalso
    by_cases hu : i < l.length <;> simp [Array.getD_eq_getD_getElem?, hu] at hl
end

end Go.Proofs.Ytdjpihbhnncahaa
namespace Go.Proofs.Ytdjpihbhnncahaa
open Go.RowKit

set_option maxHeartbeats 1000000 in
theorem toIntS_any (w : World) (B : Nat) (a : Option Addr) (c : Nat) (l : List Int) (h : Ints w .i64 B a l) (hB : B ≤ w.heap.size) (hlen : l.length ≤ 1048576) :
    Calls Try.prog 30 #[.slice a l.length c] w fun e w' => e = .returned (.slice (some ⟨w.heap.size, 0, none⟩) l.length l.length) ∧
      Has w' w.heap.size 3 (l.map (Value.int .i64)).toArray ∧ Below w.heap.size w w' := by
  obtain ⟨len, hL⟩ : ∃ n, n = l.length := ⟨_, rfl⟩
  have hst := Filled.start .i64 l (.int .i64 0)
  rw [← hL] at hlen hst ⊢
  have HL : Hid (len = l.length) := hL
  clear hL
  obtain ⟨g, hg⟩ : ∃ g, g = w.heap.size := ⟨_, rfl⟩
  have hmk := fun W => run_make_row' (P := Try.prog) 30 3 (.int .i64 0) 8 Try.underlying30 Try.info_int rfl .i64 .i64 len (by omega) (by omega) W
  have HF : Hid (Filled .i64 (madeCells #[.int .i64 0] len) l 0) := hst
  clear hst
  go_enter Try.func30, Try.ntmps30
  go_wp2
  go_loopw [4] (fun i wr => ∃ (k : Nat) (cs : Array Value), k ≤ len ∧ i = .int .i64 k ∧ Hid (Filled .i64 cs l k) ∧ Has wr w.heap.size 3 cs ∧ Below w.heap.size w wr) (fun i _ => len - (intOf i).toNat)
  case atStart => exact ⟨0, _, Nat.zero_le _, rfl, HF, Has.new _ _ _, (Below.refl _ _).alloc (Nat.le_refl _) _⟩
  case round =>
    obtain ⟨k, cs, hk, rfl, hf, hh, hb⟩ := hrel
    clear hmk HF
    by_cases hlt : k < len
    · have hll : k < l.length := by rw [← HL.out]; exact hlt
      obtain ⟨b1, o1, rfl, hbB, e1⟩ := (h.below (hb.mono hB)).at_ hll
      have hfn := hf.out.next hll
      have hcs : k < cs.size := by rw [hf.out.1]; exact hll
      obtain ⟨v, hv⟩ : ∃ v, cs[k]? = some v := ⟨_, Array.getElem?_eq_getElem hcs⟩
      have eo := hh.cell k
      rw [hv] at eo
      have ef := hh.free k
      have hput := hh.put k (.int .i64 (l.getD k 0))
      have hbp := hb.setCell (p := ⟨w.heap.size, k, none⟩) (Nat.le_refl _) (.int .i64 (l.getD k 0))
      have HN : Hid (Filled .i64 (cs.setIfInBounds k (.int .i64 (l.getD k 0))) l (k + 1)) := hfn
      obtain ⟨x, hx⟩ : ∃ x, l.getD k 0 = x := ⟨_, rfl⟩
      rw [hx] at e1 hput hbp HN
      clear hx h hf hfn hll hh hb hv hcs
      have hi : (k : Int) < (len : Int) := by omega
      go_wp2
      go_roundw
      case rel => exact ⟨k + 1, _, by omega, by go_num, HN, hput, hbp⟩
      case measure => simp [intOf]; omega
    · have hkl : k = l.length := by rw [← HL.out]; omega
      have hall := hf.out.all hkl
      have HA : Hid (cs = (l.map (Value.int .i64)).toArray) := hall
      clear hall hkl hf
      go_wp2
      go_ret
      exact ⟨rfl, by rw [← HA.out]; exact hh, hb⟩

set_option maxHeartbeats 1000000 in
theorem eqIntS_yes (w : World) (B1 B2 : Nat) (a1 a2 : Option Addr) (c1 c2 : Nat) (l : List Int) (h1 : Ints w .i64 B1 a1 l) (h2 : Ints w .i64 B2 a2 l) (hlen : l.length ≤ 9223372036854775807) :
    Calls Try.prog 23 #[.slice a1 l.length c1, .slice a2 l.length c2] w fun e w' => e = .returned (.bool true) ∧ ∃ n, w' = w.drewN n := by
  obtain ⟨len, hL⟩ : ∃ n, n = l.length := ⟨_, rfl⟩
  rw [← hL] at hlen ⊢
  have HL : Hid (len = l.length) := hL
  clear hL
  go_enter Try.func23, Try.ntmps23
  go_wp2
  go_loopw [5] (fun i wr => ∃ k : Nat, k ≤ len ∧ i = .int .i64 k ∧ ∃ n, wr = w.drewN n) (fun i _ => len - (intOf i).toNat)
  case atStart => exact ⟨0, Nat.zero_le _, rfl, 0, rfl⟩
  case round =>
    obtain ⟨k, hk, rfl, n, rfl⟩ := hrel
    by_cases hlt : k < len
    · have hll : k < l.length := by rw [← HL.out]; exact hlt
      obtain ⟨b1, o1, rfl, _, e1⟩ := h1.at_ hll
      obtain ⟨b2, o2, rfl, _, e2⟩ := h2.at_ hll
      obtain ⟨x, hx⟩ : ∃ x, l.getD k 0 = x := ⟨_, rfl⟩
      rw [hx] at e1 e2
      clear hx h1 h2 hll
      have hi : (k : Int) < (len : Int) := by omega
      go_wp2
      go_quiet (fail)
      go_wp2
      go_roundw
      case rel => exact ⟨k + 1, by omega, by go_num, _, rfl⟩
      case measure => simp [intOf]; omega
    · go_wp2
      go_ret
      exact ⟨rfl, _, rfl⟩

set_option maxHeartbeats 1000000 in
theorem sameInts_yes (w : World) (B1 B2 : Nat) (a1 a2 : Option Addr) (c1 c2 : Nat) (l : List Int) (h1 : Ints w .i64 B1 a1 l) (h2 : Ints w .i64 B2 a2 l) (hlen : l.length ≤ 9223372036854775807) :
    Calls Try.prog 9 #[.slice a1 l.length c1, .slice a2 l.length c2] w fun e w' => e = .returned (.bool true) ∧ ∃ n, w' = w.drewN n := by
  obtain ⟨len, hL⟩ : ∃ n, n = l.length := ⟨_, rfl⟩
  rw [← hL] at hlen ⊢
  have HL : Hid (len = l.length) := hL
  clear hL
  go_enter Try.func9, Try.ntmps9
  go_wp2
  go_loopw [5] (fun i wr => ∃ k : Nat, k ≤ len ∧ i = .int .i64 k ∧ ∃ n, wr = w.drewN n) (fun i _ => len - (intOf i).toNat)
  case atStart => exact ⟨0, Nat.zero_le _, rfl, 0, rfl⟩
  case round =>
    obtain ⟨k, hk, rfl, n, rfl⟩ := hrel
    by_cases hlt : k < len
    · have hll : k < l.length := by rw [← HL.out]; exact hlt
      obtain ⟨b1, o1, rfl, _, e1⟩ := h1.at_ hll
      obtain ⟨b2, o2, rfl, _, e2⟩ := h2.at_ hll
      obtain ⟨x, hx⟩ : ∃ x, l.getD k 0 = x := ⟨_, rfl⟩
      rw [hx] at e1 e2
      clear hx h1 h2 hll
      have hi : (k : Int) < (len : Int) := by omega
      go_wp2
      go_quiet (fail)
      go_wp2
      go_roundw
      case rel => exact ⟨k + 1, by omega, by go_num, _, rfl⟩
      case measure => simp [intOf]; omega
    · go_wp2
      go_ret
      exact ⟨rfl, _, rfl⟩

theorem markIntS_nil (w : World) (a : Option Addr) (cap : Nat) (k : Int) :
    Calls Try.prog 28 #[.slice a 0 cap, .int .i64 k] w fun e w' => e = .returned (.int .i64 k) ∧ w = w' := by
  go_enter Try.func28, Try.ntmps28
  go_wp2
  go_rounds 1
  go_ret
  exact ⟨rfl, rfl⟩

theorem heldIntS_nil (w : World) (a : Option Addr) (cap : Nat) (k : Int) :
    Calls Try.prog 29 #[.slice a 0 cap, .int .i64 k] w fun e w' => e = .returned (.int .i64 k) ∧ w = w' := by
  go_enter Try.func29, Try.ntmps29
  go_wp2
  go_rounds 1
  go_ret
  exact ⟨rfl, rfl⟩

/-- The first n bytes of a block of numbers are marked. -/
def FilledI (k : Int) (len : Nat) (c : Array Value) (n : Nat) : Prop := len ≤ c.size ∧ ∀ j, j < n → c[j]? = some (.int .i64 (k + (j : Nat)))
theorem FilledI.next {k : Int} {len : Nat} {c : Array Value} {n : Nat} (h : FilledI k len c n) (hn : n < c.size) : FilledI k len (c.setIfInBounds n (.int .i64 (k + (n : Nat)))) (n + 1) := by
  refine ⟨by simp [h.1], fun j hj => ?_⟩
  rw [Array.getElem?_setIfInBounds]
  by_cases e : n = j
  · subst e; simp [hn]
  · rw [if_neg e]; exact h.2 j (by omega)
set_option maxHeartbeats 1000000 in
theorem markIntS_wide (w : World) (g len cap : Nat) (cs : Array Value) (k : Int) (h : Has w g 3 cs) (hs : len ≤ cs.size) (hk : 0 ≤ k) (hb : k + len ≤ 4611686018427387904) :
    Calls Try.prog 28 #[.slice (some ⟨g, 0, none⟩) len cap, .int .i64 k] w fun e w' => e = .returned (.int .i64 (k + len)) ∧ (∃ c, Has w' g 3 c ∧ ∀ j, j < len → c[j]? = some (.int .i64 (k + (j : Nat)))) ∧ w.grownBy w' (some g) := by
  have HS : Hid (FilledI k len cs 0) := ⟨hs, fun j hj => by omega⟩
  clear hs
  go_enter Try.func28, Try.ntmps28
  go_wp2
  go_loopw [1, 5] (fun m i wr => ∃ (j : Nat) (c : Array Value) (x : Int), j ≤ len ∧ i = .int .i64 j ∧ m = .int .i64 x ∧ Hid (x = k + j) ∧ 0 ≤ x ∧ x ≤ 4611686018427387904 ∧ Hid (FilledI k len c j) ∧ Has wr g 3 c ∧ w.grownBy wr (some g))
    (fun _ i _ => len - (intOf i).toNat)
  case atStart => exact ⟨0, cs, k, by omega, rfl, rfl, hidden (by simp), hk, by omega, HS, h, World.grownBy.refl w _⟩
  case round =>
    obtain ⟨j, c, x, hj, rfl, rfl, hx, hx0, hx1, hf, hh, hg⟩ := hrel
    clear HS h
    by_cases hlt : j < len
    · have hcs : j < c.size := by have := hf.out.1; omega
      have hfn := hidden (hf.out.next hcs)
      obtain ⟨v, hv⟩ : ∃ v, c[j]? = some v := ⟨_, Array.getElem?_eq_getElem hcs⟩
      have eo := hh.cell j
      rw [hv] at eo
      have ef := hh.free j
      have hxm : (k + (j : Nat)) = x := by rw [← hx.out]
      have hput := hh.put j (.int .i64 x)
      have hgp := only_trans hg (only_put' (g := g) j (.int .i64 x))
      rw [hxm] at hfn
      have HX : Hid (x + 1 = k + ((j + 1 : Nat) : Int)) := by have := hx.out; show _ = _; omega
      have hx2 : x + 1 ≤ 4611686018427387904 := by have := hx.out; omega
      clear hf hv hcs hx hxm hh hg
      have hi : (j : Int) < (len : Int) := by omega
      go_wp2
      go_roundw
      case rel => exact ⟨j + 1, _, _, by omega, by go_num, rfl, HX, by omega, by omega, hfn, hput, hgp⟩
      case measure => simp [intOf]; omega
    · have hjl : j = len := by omega
      have hall := hf
      rw [hjl] at hall
      have HE : Hid (x = k + len) := by have := hx.out; show _ = _; omega
      have hlt' : ¬ (j : Int) < (len : Int) := by omega
      clear hf hx hjl
      go_wp2
      go_ret
      exact ⟨ret_int HE.out, ⟨c, hh, hall.out.2⟩, hg⟩
set_option maxHeartbeats 1000000 in
theorem heldIntS_wide (w : World) (g len cap : Nat) (k : Int) (h : ∀ j, j < len → w.cell? ⟨g, j, none⟩ = some (.int .i64 (k + (j : Nat)))) (hk : 0 ≤ k) (hb : k + len ≤ 4611686018427387904) :
    Calls Try.prog 29 #[.slice (some ⟨g, 0, none⟩) len cap, .int .i64 k] w fun e w' => e = .returned (.int .i64 (k + len)) ∧ w = w' := by
  have hc : Hid (∀ j, j < len → w.cell? ⟨g, 0 + j, none⟩ = some (.int .i64 (k + (j : Nat)))) := fun j hj => by
    rw [Nat.zero_add]; exact h j hj
  clear h
  go_enter Try.func29, Try.ntmps29
  go_wp2
  go_loop [1, 5] (fun m i => ∃ (j : Nat) (x : Int), j ≤ len ∧ i = .int .i64 j ∧ m = .int .i64 x ∧ Hid (x = k + j) ∧ 0 ≤ x ∧ x ≤ 4611686018427387904) (fun _ i => len - (intOf i).toNat)
  case atStart => exact ⟨0, k, by omega, rfl, rfl, hidden (by simp), hk, by omega⟩
  case round =>
    obtain ⟨j, x, hj, rfl, rfl, hx, hx0, hx1⟩ := hrel
    by_cases hlt : j < len
    · have e := hc.out j hlt
      rw [← hx.out, Nat.zero_add] at e
      have HX : Hid (x + 1 = k + ((j + 1 : Nat) : Int)) := by have := hx.out; show _ = _; omega
      have hx2 : x + 1 ≤ 4611686018427387904 := by have := hx.out; omega
      have hi : (j : Int) < (len : Int) := by omega
      clear hx
      go_wp2
      go_round
      case rel => exact ⟨j + 1, _, by omega, by go_num, rfl, HX, by omega, by omega⟩
      case measure => simp [intOf]; omega
    · have hxe := hidden (show x = k + len by have := hx.out; omega)
      have hlt' : ¬ (j : Int) < (len : Int) := by omega
      clear hx
      go_wp2
      go_ret
      exact ⟨ret_int hxe.out, rfl⟩
theorem markI_wide (w : World) (g L cap : Nat) (a : Option Addr) (k : Int) (h : 0 < L → a = some ⟨g, 0, none⟩ ∧ ∃ cs, Has w g 3 cs ∧ L ≤ cs.size) (hk : 0 ≤ k) (hb : k + L ≤ 4611686018427387904) :
    Calls Try.prog 28 #[.slice a L cap, .int .i64 k] w fun e w' => e = .returned (.int .i64 (k + L)) ∧ (0 < L → ∃ c, Has w' g 3 c ∧ ∀ j, j < L → c[j]? = some (.int .i64 (k + (j : Nat)))) ∧ w.grownBy w' (some g) := by
  rcases Nat.eq_zero_or_pos L with rfl | hL
  · refine (markIntS_nil w a cap k).mono fun e w' ⟨he, hw⟩ => ?_
    subst hw
    exact ⟨by rw [he]; simp, fun h => by omega, World.grownBy.refl w _⟩
  · obtain ⟨rfl, cs, hh, hs⟩ := h hL
    exact (markIntS_wide w g L cap cs k hh hs hk hb).mono fun e w' ⟨he, hc, hg⟩ => ⟨he, fun _ => hc, hg⟩
theorem heldI_wide (w : World) (g L cap : Nat) (a : Option Addr) (k : Int) (h : 0 < L → a = some ⟨g, 0, none⟩ ∧ ∀ j, j < L → w.cell? ⟨g, j, none⟩ = some (.int .i64 (k + (j : Nat)))) (hk : 0 ≤ k) (hb : k + L ≤ 4611686018427387904) :
    Calls Try.prog 29 #[.slice a L cap, .int .i64 k] w fun e w' => e = .returned (.int .i64 (k + L)) ∧ w = w' := by
  rcases Nat.eq_zero_or_pos L with rfl | hL
  · exact (heldIntS_nil w a cap k).mono fun e w' ⟨he, hw⟩ => ⟨by rw [he]; simp, hw⟩
  · obtain ⟨rfl, hh⟩ := h hL
    exact heldIntS_wide w g L cap k hh hk hb

end Go.Proofs.Ytdjpihbhnncahaa
namespace Go.Proofs.Ytdjpihbhnncahaa
open Go.RowKit

theorem wf_i64' {x : Int} (h0 : 0 ≤ x) (h1 : x < 1000) : (Lit.int .i64 x).wf = true := by
  simp [Lit.wf, IntKind.min, IntKind.max, IntKind.signed, IntKind.bits]; omega
theorem reachA_small (K : List ByteArray) (ss : List Sx) (ms : List Sm) : (reachA K ss ms).length ≤ 8 ∧ ∀ x ∈ reachA K ss ms, (Lit.int .i64 x).wf = true := by
  unfold reachA
  split
  · rename_i hok
    have hl := (objOk_parts hok).1
    have h1 := numsM_le 0 (reachB K ss ms)
    rw [reachB_length] at h1
    refine ⟨by omega, fun x hx => ?_⟩
    obtain ⟨i, hi, rfl⟩ := (numsM_mem _ _ _).1 hx
    have hil := (List.getElem?_eq_some_iff.1 hi).1
    rw [reachB_length] at hil
    exact wf_i64' (by omega) (by omega)
  · exact ⟨by simp, by simp⟩
theorem marks_nums (t : List Bool) : marksQ t.length (numsM 0 t) = t := by
  apply List.ext_getElem?
  intro i
  rcases Nat.lt_or_ge i t.length with h | h
  · rw [marksQ_at h, List.getElem?_eq_getElem h]
    congr 1
    rw [Bool.eq_iff_iff, decide_eq_true_iff, numsM_mem]
    constructor
    · rintro ⟨j, hj, e⟩
      have : i = j := by omega
      subst this
      rw [List.getElem?_eq_getElem h] at hj
      exact Option.some.inj hj
    · intro e
      exact ⟨i, by rw [List.getElem?_eq_getElem h, e], by omega⟩
  · rw [List.getElem?_eq_none (by rw [marksQ_length]; exact h), List.getElem?_eq_none h]
/-- The object can be kept with the reached sections alone. -/
theorem reach_kept {K : List ByteArray} {ss : List Sx} {ms : List Sm} (h : objOk ss ms = true) : keepR (marksQ ss.length (reachA K ss ms)) ss ms = (keepO (reachB K ss ms) ss ms, true) := by
  unfold reachA
  rw [if_pos h]
  have e : marksQ ss.length (numsM 0 (reachB K ss ms)) = reachB K ss ms := by
    have := marks_nums (reachB K ss ms)
    rwa [reachB_length] at this
  rw [e]
  have h2 := reach_keeps (K := K) h
  unfold keepA at h2
  unfold keepR
  split at h2
  · rename_i hc
    rw [if_pos hc]
  · cases h2
/-- With more names not fewer sections are reached. -/
theorem reach_more (K S : List ByteArray) (ss : List Sx) (ms : List Sm) : foundIn (reachA K ss ms) (reachA (K ++ S) ss ms) = (reachA K ss ms).length := by
  apply foundIn_sub
  unfold reachA
  split
  · exact numsM_sub 0 (reachB_mono (fun x hx => List.mem_append.2 (.inl hx)) ss ms)
  · exact List.Sublist.refl _
theorem foundIn_none (xs : List Int) : foundIn xs [] = 0 := by unfold foundIn; rfl
theorem foundIn_yes (x : Int) (xs ys : List Int) : foundIn (x :: xs) (x :: ys) = foundIn xs ys + 1 := by
  conv => lhs; unfold foundIn
  rw [if_pos rfl]
theorem foundIn_no {x y : Int} (h : y ≠ x) (xs ys : List Int) : foundIn (x :: xs) (y :: ys) = foundIn (x :: xs) ys := by
  conv => lhs; unfold foundIn
  rw [if_neg h]
theorem ints_of_row {W : World} {lo N c : Nat} {a : Option Addr} {A : List Int} (h : W.ownsRow lo 3 1 (.slice a N c) N (A.map (Value.int .i64))) (hN : A.length = N) (hwf : ∀ x ∈ A, (Lit.int .i64 x).wf = true) : Ints W .i64 W.heap.size a A := by
  subst hN
  obtain ⟨a', c', e, _, _, hi⟩ := ints_of_own3 h hwf
  injection e with e1
  subst e1
  exact hi
theorem Vals.past {Z Z' : World} {B h : Nat} {a : Option Addr} {vs : List Value} {T : TypeId} (hv : Vals Z B a vs) (hz : Has Z h T #[]) (hg : Z.grownBy Z' (some h)) : Vals Z' Z'.heap.size a vs := fun hn => by
  obtain ⟨b, off, e, hb, hc⟩ := hv hn
  have hne : b ≠ h := fun e2 => by
    subst e2
    have h0 := hc 0 _ (List.getElem?_eq_getElem hn)
    rw [hz.cell] at h0
    simp at h0
  have hlt : b < Z.heap.size := by
    have h0 := hc 0 _ (List.getElem?_eq_getElem hn)
    exact lt_of_cell h0
  exact ⟨b, off, e, Nat.lt_of_lt_of_le hlt hg.size, fun i u hi => World.grownBy.cell hg (hc i u hi) (fun e2 => hne (by injection e2))⟩
/-- Around the names of a list, and those that the object gives, and what they reach. -/
structure JR (W0 : World) (K S : List ByteArray) (nk ns : Nat) (R : List Int) (N2 k : Nat) (f : Bool) (Z : World) (vals : Nat → Value) : Prop where
  below : Below W0.heap.size W0 Z
  e : k = 1 → ∃ h, vals 0 = .slice (some ⟨h, 0, none⟩) 0 0 ∧ W0.heap.size ≤ h ∧ Has Z h 9 #[]
  r : k = 2 → ∃ a c, vals 1 = .slice a nk c ∧ Z.ownsRow W0.heap.size 9 1 (.slice a nk c) nk (K.map Value.string)
  s : k = 3 → ∃ a c, vals 2 = .slice a (nk + ns) c ∧ Z.ownsRow W0.heap.size 9 1 (.slice a (nk + ns) c) (nk + ns) ((K ++ S).map Value.string)
  g : f = true → k ≤ 2 → ∃ ga gc, vals 5 = .slice ga ns gc ∧ Vals Z Z.heap.size ga (S.map Value.string)
  a : 4 ≤ k → ∃ v z, vals 3 = .slice v N2 z ∧ Z.ownsRow W0.heap.size 3 1 (.slice v N2 z) N2 (R.map (Value.int .i64))
  b : k = 5 → vals 4 = vals 3
section
variable {W0 Z Z' : World} {K S : List ByteArray} {nk ns : Nat} {R : List Int} {N2 k : Nat} {f : Bool} {vals : Nat → Value}
theorem JR.only (h : JR W0 K S nk ns R N2 k f Z vals) (hb : Below Z.heap.size Z Z') : JR W0 K S nk ns R N2 k f Z' vals :=
  ⟨h.below.trans (hb.mono h.below.size), fun e => (h.e e).imp fun _ q => ⟨q.1, q.2.1, q.2.2.below hb q.2.2.lt⟩,
   (fun e => by obtain ⟨a, c, q1, q2⟩ := h.r e; exact ⟨a, c, q1, q2.kept (grown_only hb) (Classical.em _)⟩),
   (fun e => by obtain ⟨a, c, q1, q2⟩ := h.s e; exact ⟨a, c, q1, q2.kept (grown_only hb) (Classical.em _)⟩),
   fun e1 e2 => by obtain ⟨a, c, q1, q2⟩ := h.g e1 e2; exact ⟨a, c, q1, (q2.below hb).more hb.size⟩,
   fun e => by obtain ⟨a, c, q1, q2⟩ := h.a e; exact ⟨a, c, q1, q2.kept (grown_only hb) (Classical.em _)⟩, h.b⟩
theorem JR.c0 (h : JR W0 K S nk ns R N2 0 f Z vals) : JR W0 K S nk ns R N2 1 f (Z.alloc (.cells #[] 9)) (upd vals 0 (.slice (some ⟨Z.heap.size, 0, none⟩) 0 0)) := by
  have h' := h.only ((Below.refl _ _).alloc (Nat.le_refl _) (.cells #[] 9))
  exact ⟨h'.below, fun _ => ⟨Z.heap.size, rfl, h.below.size, Has.new _ _ _⟩, (fun e => by cases e), (fun e => by cases e), fun e1 _ => h'.g e1 (by decide), (fun e => absurd e (by decide)), (fun e => by cases e)⟩
theorem JR.c1 (h : JR W0 K S nk ns R N2 1 f Z vals) {b : Nat} {a : Option Addr} {c : Nat} (hb : W0.heap.size ≤ b) (hh : Has Z b 9 #[]) (hg : Z.grownBy Z' (some b)) (hr : Z'.ownsRow W0.heap.size 9 1 (.slice a nk c) nk (K.map Value.string)) : JR W0 K S nk ns R N2 2 f Z' (upd vals 1 (.slice a nk c)) :=
  ⟨h.below.grown hg h.below.size (by intro q hq; injection hq with hq; omega), (fun e => by cases e), fun _ => ⟨a, c, rfl, hr⟩, (fun e => by cases e),
   (fun e1 _ => by obtain ⟨ga, gc, q1, q2⟩ := h.g e1 (by decide); exact ⟨ga, gc, q1, q2.past hh hg⟩), (fun e => absurd e (by decide)), (fun e => by cases e)⟩
theorem JR.c2 (h : JR W0 K S nk ns R N2 2 f Z vals) {a b : Option Addr} {c d : Nat} (ho : Z.ownsRow W0.heap.size 9 1 (.slice b nk d) nk (K.map Value.string)) (hg : Z.grownBy Z' (Value.slice b nk d).ownBlock) (hr : Z'.ownsRow W0.heap.size 9 1 (.slice a (nk + ns) c) (nk + ns) ((K ++ S).map Value.string)) : JR W0 K S nk ns R N2 3 f Z' (upd vals 2 (.slice a (nk + ns) c)) :=
  ⟨h.below.grown hg h.below.size (fun q hq => (ho.lt q hq).1), (fun e => by cases e), (fun e => by cases e), fun _ => ⟨a, c, rfl, hr⟩, (fun _ e => absurd e (by decide)), (fun e => absurd e (by decide)), (fun e => by cases e)⟩
theorem JR.c3 (h : JR W0 K S nk ns R N2 3 f Z vals) {a : Option Addr} {c : Nat} (hb : Below Z.heap.size Z Z') (hr : Z'.ownsRow Z.heap.size 3 1 (.slice a N2 c) N2 (R.map (Value.int .i64))) : JR W0 K S nk ns R N2 4 f Z' (upd vals 3 (.slice a N2 c)) :=
  ⟨h.below.trans (hb.mono h.below.size), (fun e => by cases e), (fun e => by cases e), (fun e => by cases e), (fun _ e => absurd e (by decide)), fun _ => ⟨a, c, rfl, row_lower hr h.below.size⟩, (fun e => by cases e)⟩
theorem JR.c4 (h : JR W0 K S nk ns R N2 4 f Z vals) {v : Value} (hv : v = vals 3) : JR W0 K S nk ns R N2 5 f Z (upd vals 4 v) :=
  ⟨h.below, (fun e => by cases e), (fun e => by cases e), (fun e => by cases e), (fun _ e => absurd e (by decide)), fun _ => h.a (by decide), fun _ => hv⟩
theorem JR.fr (h : JR W0 K S nk ns R N2 k false Z vals) {a : Option Addr} {c : Nat} (hb : Below Z.heap.size Z Z') (hv : Vals Z' Z'.heap.size a (S.map Value.string)) : JR W0 K S nk ns R N2 k true Z' (upd vals 5 (.slice a ns c)) := by
  have h' := h.only hb
  exact ⟨h'.below, h'.e, h'.r, h'.s, fun _ _ => ⟨a, c, rfl, hv⟩, h'.a, h'.b⟩
end
set_option maxRecDepth 100000 in
set_option maxHeartbeats 8000000 in
theorem law_ReachSections (w : World) (a0 : Option Addr) (len cap : Nat) (h : Came w a0 len cap) :
    Calls Try.prog 3 #[.slice a0 len cap] w fun e w' => e = .returned (.bool true) ∧ Below w.heap.size w w' := by
  obtain ⟨l0, h, rfl, hcap, hmax⟩ := h
  by_cases hbig : 1048576 < l0.length
  · have hd : (1048576 : Int) < (l0.length : Int) := by omega
    go_enter Try.func3, Try.ntmps3
    go_wp2
    go_ret
    exact ⟨rfl, Below.refl _ _⟩
  have hd : ¬ (1048576 : Int) < (l0.length : Int) := by omega
  have HD := hidden (drawReachSections_any w a0 cap l0 h hcap hmax)
  clear h
  go_enter Try.func3, Try.ntmps3
  go_wp2_with fail
  refine HD.out.mono ?_
  clear HD
  rintro e w1 ⟨ss, ms, K, a1, a2, ka, c1, c2, kc, rfl, hl1, hl2, hsm, hmm, hS, hM, hK, hK7, hb1⟩
  have hfs : ∀ y ∈ ss, y.s.fits := fun y hy => (hsm y hy).fits'
  have hfm : ∀ x ∈ ms, x.fits := fun x hx => (hmm x hx).fits
  have hnm : ∀ y ∈ ss, y.s.name.size ≤ 1048576 := fun y hy => Nat.le_trans (hsm y hy).name (by decide)
  obtain ⟨S, hSe⟩ : ∃ q, namesIf gives (ss.map Sp.s) ms = q := ⟨_, rfl⟩
  have hSl : S.length ≤ 20 := by rw [← hSe]; exact Nat.le_trans (namesIf_less _ _ _) hl2
  obtain ⟨X, hX⟩ : ∃ q, reachA K (ss.map Sp.s) ms = q := ⟨_, rfl⟩
  obtain ⟨R, hR⟩ : ∃ q, reachA (K ++ S) (ss.map Sp.s) ms = q := ⟨_, rfl⟩
  obtain ⟨hX8, hXw⟩ := reachA_small K (ss.map Sp.s) ms
  obtain ⟨hR8, hRw⟩ := reachA_small (K ++ S) (ss.map Sp.s) ms
  rw [hX] at hX8 hXw
  rw [hR] at hR8 hRw
  obtain ⟨N, hN⟩ : ∃ q, X.length = q := ⟨_, rfl⟩
  obtain ⟨N2, hN2⟩ : ∃ q, R.length = q := ⟨_, rfl⟩
  have HFO : Hid (foundIn X R = N) := by
    show _ = _
    rw [← hN, ← hX, ← hR]
    exact reach_more K S _ _
  obtain ⟨ok, hok⟩ : ∃ q, objOk (ss.map Sp.s) ms = q := ⟨_, rfl⟩
  have HNO : Hid (ok = false → N = 0) := fun e => by
    rw [← hN, ← hX]
    unfold reachA
    rw [hok, e]; rfl
  obtain ⟨ns, hns⟩ : ∃ n, ss.length = n := ⟨_, rfl⟩
  obtain ⟨nm, hnm2⟩ : ∃ n, ms.length = n := ⟨_, rfl⟩
  obtain ⟨nk, hnk⟩ : ∃ n, K.length = n := ⟨_, rfl⟩
  obtain ⟨nS, hnS⟩ : ∃ n, S.length = n := ⟨_, rfl⟩
  rw [hN] at hX8
  rw [hN2] at hR8
  rw [hnS] at hSl
  have HIM : Hid (∀ W, Below w1.heap.size w1 W → Calls Try.prog 8 #[.agg #[.slice a1 ns c1, .slice a2 nm c2], .slice ka nk kc] W (AnsI W X N)) := fun W hB => by
    have := reachSections_any W w1.heap.size a1 a2 c1 c2 ns nm ss ms hns.symm hnm2.symm (hS.below hB) (hM.below hB) hB.size (by omega) (by omega) hfs hfm K ka nk kc (hK.below hB) hnk (by omega) N (by rw [hX]; exact hN)
    rwa [hX] at this
  have HSP : Hid (∀ W, Below w1.heap.size w1 W → Calls Try.prog 10 #[.agg #[.slice a1 ns c1, .slice a2 nm c2], .slice ka nk kc] W (AnsI W X N)) := fun W hB => by
    have := reachSections'_any W w1.heap.size a1 a2 c1 c2 ns nm ss ms hns.symm hnm2.symm (hS.below hB) (hM.below hB) hB.size (by omega) (by omega) (fun y hy => (hfs y hy).lens) (fun x hx => (hfm x hx).name) K ka nk kc (hK.below hB) hnk (by omega) N (by rw [hX]; exact hN)
    rwa [hX] at this
  have HI2 : Hid (∀ (W : World) (ga : Option Addr) (gc : Nat), Below w1.heap.size w1 W → Vals W W.heap.size ga ((K ++ S).map Value.string) → Calls Try.prog 8 #[.agg #[.slice a1 ns c1, .slice a2 nm c2], .slice ga (nk + nS) gc] W (AnsI W R N2)) := fun W ga gc hB hv => by
    have := reachSections_any W W.heap.size a1 a2 c1 c2 ns nm ss ms hns.symm hnm2.symm ((hS.below hB).more hB.size) ((hM.below hB).more hB.size) (Nat.le_refl _) (by omega) (by omega) hfs hfm (K ++ S) ga (nk + nS) gc hv (by rw [List.length_append, hnk, hnS]) (by omega) N2 (by rw [hR]; exact hN2)
    rwa [hR] at this
  have HOV : Hid (∀ W, Below w1.heap.size w1 W → Calls Try.prog 11 #[.agg #[.slice a1 ns c1, .slice a2 nm c2]] W fun e w' => e = .returned (.bool ok) ∧ Below W.heap.size W w') := fun W hB => by
    have := objectValid'_any W w1.heap.size a1 a2 c1 c2 ns nm ss ms hns.symm hnm2.symm (hS.below hB) (hM.below hB) hB.size (by omega) (by omega) (fun y hy => (hfs y hy).lens) (fun x hx => (hfm x hx).name)
    rwa [hok] at this
  have HGO : Hid (∀ W, Below w1.heap.size w1 W → Calls Try.prog 14 #[.agg #[.slice a1 ns c1, .slice a2 nm c2]] W fun e w' => ∃ (sa : Option Addr) (sc : Nat), e = .returned (.slice sa nS sc) ∧ Vals w' w'.heap.size sa (S.map Value.string) ∧ Below W.heap.size W w') := fun W hB => by
    have := wantNamesGiven W w1.heap.size a1 a2 c1 c2 ss ms (hS.below hB) (hM.below hB) hB.size (by omega) (by omega) hfs hfm
    rw [hns, hnm2, hSe] at this
    refine this.mono fun e w' h => ?_
    have := h.vals
    rwa [hnS] at this
  have HKS : Hid (∀ (W : World) (xa : Option Addr) (xc : Nat), Below w1.heap.size w1 W → ok = true → Vals W W.heap.size xa (X.map (Value.int .i64)) → Calls Try.prog 13 #[.agg #[.slice a1 ns c1, .slice a2 nm c2], .slice xa N xc] W fun e w' => ∃ (u1 u2 : Option Addr) (m1 m2 d1 d2 : Nat), e = .returned (.tuple #[.agg #[.slice u1 m1 d1, .slice u2 m2 d2], .bool true]) ∧ Below W.heap.size W w') := fun W xa xc hB e hv => by
    have hke := reach_kept (K := K) (hok.trans e)
    rw [hX, List.length_map, hns] at hke
    refine (keepSections_any W W.heap.size a1 a2 c1 c2 ns nm ss ms hns.symm hnm2.symm ((hS.below hB).more hB.size) ((hM.below hB).more hB.size) (Nat.le_refl _) (by omega) (by omega) hfs hfm hnm X xa N xc hv hN (by omega) _ true _ _ hke rfl rfl).mono fun e w' h => ?_
    obtain ⟨_, _, _, _, _, rfl, _, _, hb⟩ := h
    exact ⟨_, _, _, _, _, _, rfl, hb⟩
  have HEQ : Hid (∀ (W : World) (p1 p2 : Option Addr) (z1 z2 l1 l2 : Nat), W.ownsRow l1 3 1 (.slice p1 N z1) N (X.map (Value.int .i64)) → W.ownsRow l2 3 1 (.slice p2 N z2) N (X.map (Value.int .i64)) → Calls Try.prog 9 #[.slice p1 N z1, .slice p2 N z2] W fun e w' => e = .returned (.bool true) ∧ ∃ n, w' = W.drewN n) := fun W p1 p2 z1 z2 l1 l2 h1 h2 => by
    have := sameInts_yes W W.heap.size W.heap.size p1 p2 z1 z2 X (ints_of_row h1 hN hXw) (ints_of_row h2 hN hXw) (by rw [hN]; omega)
    rwa [hN] at this
  have HKV : Hid (∀ W, Below w1.heap.size w1 W → Vals W W.heap.size ka (K.map Value.string)) := fun W hB => (hK.below hB).more hB.size
  have HB1 := hidden hb1
  have HNE := hidden hN
  have HNE2 := hidden hN2
  have HNK := hidden hnk
  have HNS := hidden hnS
  rw [hns, hnm2, hnk]
  have hk7 : nk ≤ 7 := by omega
  clear hl1 hl2 hsm hmm hS hM hK hK7 hb1 hfs hfm hnm hX hR hok hSe hN hN2 hns hnm2 hnk hnS hXw hRw
  have hbO : Below w1.heap.size w1 (w1.alloc (.cells #[.slice a1 ns c1, .slice a2 nm c2] 26)) := (Below.refl _ _).alloc (Nat.le_refl _) _
  have hO : Has (w1.alloc (.cells #[.slice a1 ns c1, .slice a2 nm c2] 26)) w1.heap.size 26 #[.slice a1 ns c1, .slice a2 nm c2] := Has.new _ _ _
  obtain ⟨W2, hW2⟩ : ∃ q, w1.alloc (.cells #[.slice a1 ns c1, .slice a2 nm c2] 26) = q := ⟨_, rfl⟩
  obtain ⟨qo, hqo⟩ : ∃ q, w1.heap.size = q := ⟨_, rfl⟩
  rw [hW2] at hbO hO
  rw [hqo] at hO
  have HO := hidden hO
  have HBO := hidden hbO
  have HW2 := hidden hW2
  have HQO := hidden hqo
  have HI := hidden (HIM.out W2 hbO)
  have x0 : W2.cell? ⟨qo, 0, none⟩ = some (.slice a1 ns c1) := hO.cell 0
  have x1 : W2.cell? ⟨qo, 1, none⟩ = some (.slice a2 nm c2) := hO.cell 1
  clear hbO hO hW2 hqo HIM hd
  go_upto_region 4 with fail
  rw [HW2.out, HQO.out]
  clear HW2
  -- the program's answer
  go_wp2_with fail
  refine HI.out.mono ?_
  clear HI x0 x1
  rintro e w3 ⟨xa, xc, rfl, -, hx3, hb3⟩
  have HB3 := hidden (HBO.out.trans (hb3.mono HBO.out.size))
  have HO3 := hidden (HO.out.below hb3 HO.out.lt)
  have HX3 := hidden hx3
  have HS3 := hidden (HSP.out w3 HB3.out)
  have x0 : w3.cell? ⟨qo, 0, none⟩ = some (.slice a1 ns c1) := HO3.out.cell 0
  have x1 : w3.cell? ⟨qo, 1, none⟩ = some (.slice a2 nm c2) := HO3.out.cell 1
  clear hb3 hx3 HBO HO HSP
  -- the model's answer
  go_wp2_with fail
  refine HS3.out.mono ?_
  clear HS3 x0 x1
  rintro e w4 ⟨ya, yc, rfl, -, hy4, hb4⟩
  have HB4 := hidden (HB3.out.trans (hb4.mono HB3.out.size))
  have HO4 := hidden (HO3.out.below hb4 HO3.out.lt)
  have HX4 := hidden (HX3.out.kept (grown_only hb4) (Classical.em _))
  have HE4 := hidden (HEQ.out w4 xa ya xc yc _ _ HX4.out hy4)
  clear hb4 hy4 HB3 HO3 HX3 HEQ
  go_wp2_with fail
  refine HE4.out.mono ?_
  clear HE4
  rintro e _ ⟨rfl, z, rfl⟩
  obtain ⟨w5, hw5⟩ : ∃ q, w4.drewN z = q := ⟨_, rfl⟩
  have hb5 : Below w4.heap.size w4 w5 := by rw [← hw5]; exact below_drewN (Below.refl _ _) z
  rw [hw5]
  have HB5 := hidden (HB4.out.trans (hb5.mono HB4.out.size))
  have HO5 := hidden (HO4.out.below hb5 HO4.out.lt)
  have HX5 := hidden (HX4.out.kept (grown_only hb5) (Classical.em _))
  have HV5 := hidden (HOV.out w5 HB5.out)
  have x0 : w5.cell? ⟨qo, 0, none⟩ = some (.slice a1 ns c1) := HO5.out.cell 0
  have x1 : w5.cell? ⟨qo, 1, none⟩ = some (.slice a2 nm c2) := HO5.out.cell 1
  clear hb5 hw5 HB4 HO4 HX4 HOV
  go_wp2_with fail
  refine HV5.out.mono ?_
  clear HV5 x0 x1
  rintro e w6 ⟨rfl, hb6⟩
  have HB6 := hidden (HB5.out.trans (hb6.mono HB5.out.size))
  have HO6 := hidden (HO5.out.below hb6 HO5.out.lt)
  have HX6 := hidden (HX5.out.kept (grown_only hb6) (Classical.em _))
  clear hb6 HB5 HO5 HX5
  cases ok with
  | false =>
    have hN0 : N = 0 := HNO.out rfl
    have hBe : Below w.heap.size w w6 := HB1.out.trans (HB6.out.mono HB1.out.size)
    clear HNO HFO HI2 HGO HKS HKV HX6 HO6 HB6 HNE
    subst hN0
    go_wp2_with (go_at_call 12; refine (alive_any _).mono ?_; rintro e _ ⟨rfl, rfl⟩)
    go_ret
    exact ⟨rfl, hBe⟩
  | true =>
    have HVX : Hid (Vals w6 w6.heap.size xa (X.map (Value.int .i64))) := own_vals HX6.out HNE.out.symm
    have HK6 := hidden (HKS.out w6 xa xc HB6.out rfl HVX.out)
    have x0 : w6.cell? ⟨qo, 0, none⟩ = some (.slice a1 ns c1) := HO6.out.cell 0
    have x1 : w6.cell? ⟨qo, 1, none⟩ = some (.slice a2 nm c2) := HO6.out.cell 1
    clear HKS HNO HVX
    go_wp2_with fail
    refine HK6.out.mono ?_
    clear HK6 x0 x1
    rintro e w7 ⟨u1, u2, m1, m2, d1, d2, rfl, hb7⟩
    have hb78 : Below w7.heap.size w7 (w7.alloc (.cells #[.slice u1 m1 d1, .slice u2 m2 d2] 26)) := (Below.refl _ _).alloc (Nat.le_refl _) _
    have hb8 := hb7.trans (hb78.mono hb7.size)
    obtain ⟨W8, hW8⟩ : ∃ q, w7.alloc (.cells #[.slice u1 m1 d1, .slice u2 m2 d2] 26) = q := ⟨_, rfl⟩
    rw [hW8] at hb8
    have HB8 := hidden (HB6.out.trans (hb8.mono HB6.out.size))
    have HO8 := hidden (HO6.out.below hb8 HO6.out.lt)
    have HX8 := hidden (HX6.out.kept (grown_only hb8) (Classical.em _))
    have HW8 := hidden hW8
    clear hb7 hb78 hb8 hW8 HB6 HO6 HX6
    go_upto_region 10 with fail
    rw [HW8.out]
    clear HW8
    have HC : Hid (∀ W, Below W8.heap.size W8 W → W.cell? ⟨qo, 0, none⟩ = some (.slice a1 ns c1) ∧ W.cell? ⟨qo, 1, none⟩ = some (.slice a2 nm c2)) := fun W hW => by
      have := HO8.out.below hW HO8.out.lt
      exact ⟨this.cell 0, this.cell 1⟩
    refine wp_region_free (m := 5) (js := [.quiet (.agg #[.slice a1 ns c1, .slice a2 nm c2]) 0 5, .chain 0 false, .quiet (.slice ka nk kc) 0 5, .chain 1 false, .quiet (.agg #[.slice a1 ns c1, .slice a2 nm c2]) 0 5, .free 5, .chain 2 true, .chain 3 false, .chain 4 false]) (by kernel_rfl) (JR W8 K S nk nS R N2) (by kernel_rfl) (by kernel_rfl) ⟨fun _ => undef, ⟨(Below.refl _ _).drew, (fun h => by cases h), (fun h => by cases h), (fun h => by cases h), (fun h => by cases h), (fun h => absurd h (by decide)), (fun h => by cases h)⟩⟩ (fun vals => ?_) ?_
    · show SeqX _ _ _ _ _ _ _
      refine ⟨fun kk hlo hhi ff W hW => ?_, ?_⟩
      · obtain ⟨q0, q1⟩ := HC.out W hW.below
        unfold Oper.wp
        simp [go_sem, q0, q1]
        try exact ⟨_, rfl, rfl⟩
      simp only [Act.put, JobX.val, List.setIfInBounds_toArray, List.set_cons_succ, List.set_cons_zero]
      refine ⟨fun ff W hwt hW => ?_, ?_⟩
      · have hN := hW.c0
        unfold Oper.wp
        simp [go_sem]
        first | exact hN | exact ⟨_, rfl, hN⟩
      simp only [Act.put, JobX.val, List.setIfInBounds_toArray, List.set_cons_succ, List.set_cons_zero]
      refine ⟨fun kk hlo hhi ff W hW => ?_, ?_⟩
      · unfold Oper.wp
        simp [go_sem]
        try exact ⟨_, rfl, rfl⟩
      simp only [Act.put, JobX.val, List.setIfInBounds_toArray, List.set_cons_succ, List.set_cons_zero]
      refine ⟨fun ff W hwt hW => ?_, ?_⟩
      · obtain ⟨hb, hv, hbl, hh⟩ := hW.e rfl
        have hvk := HKV.out W (HB8.out.trans (hW.below.mono HB8.out.size))
        refine wp_append_row _ _ 27 9 rfl _ 1 16 Try.info_str Try.underlying27 rfl (by decide) (by decide) W8.heap.size (vals 0) 0 [] rfl (by rw [hv]; exact ⟨by simp, .inr ⟨hb, 0, #[], rfl, hbl, hh, Nat.le_refl _, by unfold maxLen; omega, by simp, by simp⟩⟩) ka nk kc (K.map Value.string) rfl (by rw [List.length_map, HNK.out, Nat.mul_one]) (fun hpos => by
          obtain ⟨b, off, e, _, hc⟩ := hvk (by rw [List.length_map, HNK.out]; exact hpos)
          exact ⟨b, off, e, hc⟩) (fun u hu => by obtain ⟨_, _, rfl⟩ := List.mem_map.1 hu; rfl) (by omega) hW.below.size ?_
        intro v' w' h2 h3
        rw [Nat.zero_add, List.nil_append] at h2
        obtain ⟨b2, d2, rfl⟩ := own_shape h2
        rw [hv] at h3
        exact ⟨_, rfl, hW.c1 hbl hh h3 h2⟩
      simp only [Act.put, JobX.val, List.setIfInBounds_toArray, List.set_cons_succ, List.set_cons_zero]
      refine ⟨fun kk hlo hhi ff W hW => ?_, ?_⟩
      · obtain ⟨q0, q1⟩ := HC.out W hW.below
        unfold Oper.wp
        simp [go_sem, q0, q1]
        try exact ⟨_, rfl, rfl⟩
      simp only [Act.put, JobX.val, List.setIfInBounds_toArray, List.set_cons_succ, List.set_cons_zero]
      refine ⟨fun kk W hW => ?_, ?_⟩
      · have hgo := HGO.out W (HB8.out.trans (hW.below.mono HB8.out.size))
        unfold Oper.wp
        simp [go_sem]
        refine hgo.mono ?_
        rintro e w' ⟨sa, sc, rfl, hvs, hbs⟩
        have hN := hW.fr (c := sc) hbs hvs
        first | exact hN | exact ⟨_, rfl, hN⟩
      simp only [Act.put, JobX.val, List.setIfInBounds_toArray, List.set_cons_succ, List.set_cons_zero]
      refine ⟨fun ff W hwt hW => ?_, ?_⟩
      · obtain ⟨ra, rc, hv, hrow⟩ := hW.r rfl
        obtain ⟨ga, gc, hv5, hvs⟩ := hW.g (hwt rfl) (by decide)
        refine wp_append_row _ _ 27 9 rfl _ 1 16 Try.info_str Try.underlying27 rfl (by decide) (by decide) W8.heap.size (vals 1) nk (K.map Value.string) rfl (by rw [hv]; exact hrow) ga nS gc (S.map Value.string) hv5 (by rw [List.length_map, HNS.out, Nat.mul_one]) (fun hpos => by
          obtain ⟨b, off, e, _, hc⟩ := hvs (by rw [List.length_map, HNS.out]; exact hpos)
          exact ⟨b, off, e, hc⟩) (fun u hu => by obtain ⟨_, _, rfl⟩ := List.mem_map.1 hu; rfl) (by omega) hW.below.size ?_
        intro v' w' h2 h3
        rw [← List.map_append] at h2
        obtain ⟨b2, d2, rfl⟩ := own_shape h2
        rw [hv] at h3
        exact ⟨_, rfl, hW.c2 hrow h3 h2⟩
      simp only [Act.put, JobX.val, List.setIfInBounds_toArray, List.set_cons_succ, List.set_cons_zero]
      refine ⟨fun ff W hwt hW => ?_, ?_⟩
      · obtain ⟨ra, rc, hv, hrow⟩ := hW.s rfl
        have hvs : Vals W W.heap.size ra ((K ++ S).map Value.string) := by
          have hl : nk + nS = ((K ++ S).map Value.string).length := by rw [List.length_map, List.length_append, HNK.out, HNS.out]
          rw [hl] at hrow
          obtain ⟨a', c', e', _, h4⟩ := vals_of_own hrow
          injection e' with e1
          subst e1
          exact h4
        have hi2 := HI2.out W ra rc (HB8.out.trans (hW.below.mono HB8.out.size)) hvs
        rw [hv]
        unfold Oper.wp
        simp [go_sem]
        refine hi2.mono ?_
        rintro e w' ⟨za, zc, rfl, -, hz, hbz⟩
        have hN := hW.c3 hbz hz
        first | exact hN | exact ⟨_, rfl, hN⟩
      simp only [Act.put, JobX.val, List.setIfInBounds_toArray, List.set_cons_succ, List.set_cons_zero]
      refine ⟨fun ff W hwt hW => ?_, ?_⟩
      · obtain ⟨ra, rc, hv, -⟩ := hW.a (by decide)
        have hN := hW.c4 hv.symm
        rw [hv]
        unfold Oper.wp
        simp [go_sem]
        first | exact hN | exact ⟨_, rfl, hN⟩
      simp only [Act.put, JobX.val, List.setIfInBounds_toArray, List.set_cons_succ, List.set_cons_zero]
      exact trivial
    · intro ff W9 vals hff hJ
      obtain ⟨za, zc, hv, hz⟩ := hJ.a (by decide)
      have hv4 := (hJ.b rfl).trans hv
      have HX9 := hidden (HX8.out.kept (grown_only hJ.below) (Classical.em _))
      have HVX := hidden (own_vals HX9.out HNE.out.symm)
      have HVZ := hidden (own_vals hz HNE2.out.symm)
      have HFI : Hid (Below w.heap.size w W9) := HB1.out.trans ((HB8.out.trans (hJ.below.mono HB8.out.size)).mono HB1.out.size)
      simp only [putAll, List.map_cons, List.map_nil, JobX.val, Act.put, List.setIfInBounds_toArray, List.set_cons_succ, List.set_cons_zero]
      rw [hv4]
      have HF0 : Hid (foundIn (X.drop 0) (R.drop 0) + 0 = N) := HFO.out
      clear hJ hv hv4 hz HX9 HX8 HO8 HB8 HI2 HGO HKV HC HFO
      go_wp2_with fail
      go_loopw [9, 10] (fun av kv wr => ∃ (a k z : Nat), av = .int .i64 a ∧ kv = .int .i64 k ∧ a ≤ N ∧ k ≤ N2 ∧ Hid (foundIn (X.drop a) (R.drop k) + a = N) ∧ wr = W9.drewN z) (fun _ kv _ => N2 - (intOf kv).toNat)
      case atStart => exact ⟨0, 0, 0, rfl, rfl, Nat.zero_le _, Nat.zero_le _, HF0, rfl⟩
      case round =>
        obtain ⟨a, k, z, rfl, rfl, ha, hk, hfo, rfl⟩ := hrel
        clear HF0
        have HFIN : Hid (Below w.heap.size w (W9.drewN z)) := below_drewN HFI.out z
        by_cases hkn : k < N2
        · have hik : (k : Int) < (N2 : Int) := by omega
          by_cases han : a < N
          · have hia : (a : Int) < (N : Int) := by omega
            obtain ⟨x, hx⟩ : ∃ x, X[a]? = some x := ⟨_, List.getElem?_eq_getElem (by rw [HNE.out]; exact han)⟩
            obtain ⟨y, hy⟩ : ∃ y, R[k]? = some y := ⟨_, List.getElem?_eq_getElem (by rw [HNE2.out]; exact hkn)⟩
            obtain ⟨xb, xo, rfl, _, hxc⟩ := HVX.out (by rw [List.length_map, HNE.out]; omega)
            obtain ⟨zb, zo, rfl, _, hzc⟩ := HVZ.out (by rw [List.length_map, HNE2.out]; omega)
            have g1 : W9.cell? ⟨xb, xo + a, none⟩ = some (.int .i64 x) := hxc a _ (by rw [List.getElem?_map, hx]; rfl)
            have g2 : W9.cell? ⟨zb, zo + k, none⟩ = some (.int .i64 y) := hzc k _ (by rw [List.getElem?_map, hy]; rfl)
            have e1 : ∀ q, ((W9.drewN z).drewN q).cell? ⟨xb, xo + a, none⟩ = some (.int .i64 x) := fun _ => g1
            have e2 : ∀ q, ((W9.drewN z).drewN q).cell? ⟨zb, zo + k, none⟩ = some (.int .i64 y) := fun _ => g2
            have e3 : ∀ q, (W9.drewN q).cell? ⟨xb, xo + a, none⟩ = some (.int .i64 x) := fun _ => g1
            have e4 : ∀ q, (W9.drewN q).cell? ⟨zb, zo + k, none⟩ = some (.int .i64 y) := fun _ => g2
            have hd1 := drop_next hx
            have hd2 := drop_next hy
            have hf := hfo.out
            rw [hd1, hd2] at hf
            by_cases hxy : y = x
            · have hd : (y == x) = true := by rw [hxy]; simp
              have HF1 : Hid (foundIn (X.drop (a + 1)) (R.drop (k + 1)) + (a + 1) = N) := by
                rw [hxy, foundIn_yes] at hf
                show _ = _
                omega
              clear hx hy hxc hzc hd1 hd2 hf hxy hfo HFIN
              go_wp2_with fail
              go_quiet (fail)
              go_wp2_with fail
              go_roundw
              case rel => exact ⟨a + 1, k + 1, _, by go_num, by go_num, by omega, by omega, HF1, rfl⟩
              case measure => simp [intOf]; omega
            · have hd : (y == x) = false := by simp [hxy]
              have HF1 : Hid (foundIn (X.drop a) (R.drop (k + 1)) + a = N) := by
                rw [foundIn_no hxy] at hf
                rw [hd1]
                exact hf
              clear hx hy hxc hzc hd1 hd2 hf hxy hfo HFIN
              go_wp2_with fail
              go_quiet (fail)
              go_wp2_with fail
              go_roundw
              case rel => exact ⟨a, k + 1, _, rfl, by go_num, by omega, by omega, HF1, rfl⟩
              case measure => simp [intOf]; omega
          · have hia : ¬ (a : Int) < (N : Int) := by omega
            have haN : a = N := by omega
            clear hfo ha hkn han HVX HVZ HNE HNE2
            subst haN
            go_wp2_with fail
            go_ret
            exact ⟨rfl, HFIN.out⟩
        · have hik : ¬ (k : Int) < (N2 : Int) := by omega
          have haN : a = N := by
            have hf := hfo.out
            rw [show R.drop k = [] from List.drop_eq_nil_of_le (by rw [HNE2.out]; omega), foundIn_none] at hf
            omega
          clear hfo ha hkn HVX HVZ HNE HNE2
          subst haN
          go_wp2_with fail
          go_ret
          exact ⟨rfl, HFIN.out⟩

end Go.Proofs.Ytdjpihbhnncahaa

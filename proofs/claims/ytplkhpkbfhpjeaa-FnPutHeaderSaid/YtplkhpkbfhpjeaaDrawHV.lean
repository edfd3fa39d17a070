/-
  What the laws on headers draw.
-/
import Derived.Test.YtplkhpkbfhpjeaaDrawH
import Derived.Test.YtplkhpkbfhpjeaaBent
namespace Go.Proofs.Ytplkhpkbfhpjeaa
open Go.RowKit

set_option maxRecDepth 100000 in
set_option maxHeartbeats 1000000 in
theorem drawPutHeader_any (w : World) (a : Option Addr) (cap : Nat) (l : List Int) (h : Ints w .u8 w.heap.size a l) (hcap : l.length ≤ cap) (hlen : cap ≤ 9223372036854775807) :
    Calls Try.prog 8 #[.slice a l.length cap] w fun e w' => ∃ m : Hd, e = .returned m.agg ∧ m.small ∧ Below w.heap.size w w' := by
  go_enter Try.func8, Try.ntmps8
  go_wp2_with fail
  refine (l20Open_any (w.alloc (.cells #[.int .i64 0, .int .i64 0, .int .i64 0, .int .i64 0] 24)) a cap l ((h.alloc (Nat.le_refl _) _).more (by simp)) hcap hlen).mono ?_
  rintro e w1 ⟨rfl, hr1, hb1⟩
  clear h
  have s0 : (w.alloc (.cells #[.int .i64 0, .int .i64 0, .int .i64 0, .int .i64 0] 24)).heap.size = w.heap.size + 1 := by simp
  rw [s0] at hr1 hb1
  rw [s0]
  have hres1 : Has w1 w.heap.size 24 #[.int .i64 0, .int .i64 0, .int .i64 0, .int .i64 0] := (Has.new w _ _).below hb1 (by omega)
  have hbw1 : Below w.heap.size w w1 := ((Below.refl _ _).alloc (Nat.le_refl _) _).trans (hb1.mono (by omega))
  have HX := hidden (l20Header_any w1 (w.heap.size + 1) (w.heap.size + 1) 0 6 hr1 (by omega) (by omega) (by omega))
  have hlt := hr1.lt
  clear hb1 s0 hr1
  go_wp2_with fail
  refine HX.out.mono ?_
  clear HX
  rintro e w5 ⟨m, he, hm, hr5, hg5⟩
  unfold Hd.agg at he
  subst he
  have hres5 : Has w5 w.heap.size 24 #[.int .i64 0, .int .i64 0, .int .i64 0, .int .i64 0] := hres1.grown hg5 (by simp)
  have y0 : w5.cell? ⟨w.heap.size, 0, none⟩ = some (.int .i64 0) := hres5.cell 0
  have y1 : w5.cell? ⟨w.heap.size, 1, none⟩ = some (.int .i64 0) := hres5.cell 1
  have y2 : w5.cell? ⟨w.heap.size, 2, none⟩ = some (.int .i64 0) := hres5.cell 2
  have y3 : w5.cell? ⟨w.heap.size, 3, none⟩ = some (.int .i64 0) := hres5.cell 3
  have f0 := hres5.free 0
  have f1 := hres5.free 1
  have f2 := hres5.free 2
  have f3 := hres5.free 3
  have HRES := hidden hres5
  have hbw5 : Below w.heap.size w w5 := hbw1.grown hg5 hbw1.size (by intro q hq; injection hq with hq; omega)
  clear hg5 hr5 hres5 hres1 hbw1
  go_wp2_with fail
  have HF : Has ((((w5.setCell ⟨w.heap.size, 0, none⟩ (.int .i64 m.sec)).setCell ⟨w.heap.size, 1, none⟩ (.int .i64 m.sym)).setCell ⟨w.heap.size, 2, none⟩ (.int .i64 m.fix)).setCell ⟨w.heap.size, 3, none⟩ (.int .i64 m.nam)) w.heap.size 24 #[.int .i64 m.sec, .int .i64 m.sym, .int .i64 m.fix, .int .i64 m.nam] := (((HRES.out.put 0 _).put 1 _).put 2 _).put 3 _
  have HG : w5.grownBy ((((w5.setCell ⟨w.heap.size, 0, none⟩ (.int .i64 m.sec)).setCell ⟨w.heap.size, 1, none⟩ (.int .i64 m.sym)).setCell ⟨w.heap.size, 2, none⟩ (.int .i64 m.fix)).setCell ⟨w.heap.size, 3, none⟩ (.int .i64 m.nam)) (some w.heap.size) := (only_trans (only_trans (only_trans (only_put' (g := w.heap.size) 0 _) (only_put' (g := w.heap.size) 1 _)) (only_put' (g := w.heap.size) 2 _)) (only_put' (g := w.heap.size) 3 _))
  refine bodyPost_ret (results_cell_row rfl _ _ w.heap.size 24 #[.int .i64 m.sec, .int .i64 m.sym, .int .i64 m.fix, .int .i64 m.nam] (0, 0) _ rfl HF Try.underlying24 rfl (by kernel_rfl)) rfl ?_
  exact ⟨m, rfl, hm, hbw5.grown HG hbw5.size (by intro q hq; injection hq with hq; omega)⟩
set_option maxRecDepth 100000 in
set_option maxHeartbeats 1000000 in
theorem drawGetHeader_any (w : World) (a : Option Addr) (cap : Nat) (l : List Int) (h : Ints w .u8 w.heap.size a l) (hcap : l.length ≤ cap) (hlen : cap ≤ 9223372036854775807) :
    Calls Try.prog 15 #[.slice a l.length cap] w fun e w' => ∃ (b : Option Addr) (c : Nat) (t : List Int), e = .returned (.slice b t.length c) ∧ t.length ≤ 11 ∧ t.length ≤ c ∧ c ≤ maxLen ∧ Ints w' .u8 w'.heap.size b t ∧ Below w.heap.size w w' := by
  go_enter Try.func15, Try.ntmps15
  go_wp2_with fail
  refine (l20Open_any w a cap l h hcap hlen).mono ?_
  rintro e w1 ⟨rfl, hr1, hb1⟩
  have HX := hidden (l20Header_any w1 w.heap.size w.heap.size 0 0 hr1 (by omega) (by omega) (by omega))
  have hlt := hr1.lt
  clear h hr1
  go_wp2_with fail
  refine HX.out.mono ?_
  clear HX
  rintro e w2 ⟨m, rfl, hm, hr2, hg2⟩
  have hb2 := hb1.grown hg2 hb1.size (by intro q hq; injection hq with hq; omega)
  have HP := hidden (putHeader'_at w2 m)
  have hwf := hidden (putHd_wf m)
  have h10 := putHd_short m
  obtain ⟨t, ht⟩ : ∃ t, putHd m = t := ⟨_, rfl⟩
  rw [ht] at HP hwf h10
  obtain ⟨n, hn⟩ : ∃ n, t.length = n := ⟨_, rfl⟩
  rw [hn] at HP h10
  have HN := hidden hn
  have hlt2 := hr2.lt
  clear hg2 hb1 ht hn
  go_wp2_with fail
  refine HP.out.mono ?_
  clear HP
  rintro e w3 ⟨q, c, rfl, hq1, hq2, hc, hcm, hi3, hb3⟩
  have hr3 := hr2.below hb3 hlt2
  have hB3 := hb2.trans (hb3.mono hb2.size)
  have HI3 := hidden hi3
  clear hr2 hb2 hb3 hi3
  go_wp2_with fail
  refine (odd_any w3 w.heap.size w.heap.size (0 + 30) 2 hr3 (by omega) (by omega) (by omega)).mono ?_
  rintro e w4 ⟨b, rfl, hr4, hg4⟩
  have hB4 := hB3.grown hg4 hB3.size (by intro q hq; injection hq with hq; omega)
  have hlt3 := hr3.lt
  have hq4 : q < w4.heap.size := Nat.lt_of_lt_of_le hq2 hg4.size
  have hqg : q ≠ w.heap.size := by omega
  have hc4 : ∀ j u, (t.map (Value.int .u8))[j]? = some u → w4.cell? ⟨q, 0 + j, none⟩ = some u := fun j u hu => by
    rw [List.getElem?_map] at hu
    rcases hj : t[j]? with _ | y
    · rw [hj] at hu; cases hu
    · rw [hj] at hu
      injection hu with hu
      obtain ⟨hjl, hjy⟩ := List.getElem?_eq_some_iff.1 hj
      obtain ⟨b', o', e, _, hcc⟩ := HI3.out.2 (by omega)
      injection e with e; injection e with e1 e2; subst e1; subst e2
      have := hcc j hjl
      rw [List.getD_eq_getElem?_getD, hj, Option.getD_some] at this
      rw [World.cell?_of_block (hg4.block q hq2 (fun e => by injection e with e; exact hqg e)), ← hu]
      exact this
  have hi4 : Ints w4 .u8 w4.heap.size (some ⟨q, 0, none⟩) t := ⟨hwf.out, fun hn => ⟨q, 0, rfl, hq4, fun i hi => by
    have := hc4 i (.int .u8 (t.getD i 0)) (by rw [List.getElem?_map, List.getElem?_eq_getElem hi, List.getD_eq_getElem?_getD, List.getElem?_eq_getElem hi]; rfl)
    exact this⟩⟩
  have HI4 := hidden hi4
  have HBT := hidden (l20Bent_any w4 w.heap.size w.heap.size (0 + 30 + 1) hr4 (by omega) q 0 c n t HN.out.symm (by omega) hwf.out hc4 hq4)
  clear hc4 hi4 HI3 hg4 hr3 hB3
  rcases b with _ | _
  · go_wp2_with fail
    go_ret
    exact ⟨some ⟨q, 0, none⟩, c, t, by rw [HN.out]; rfl, by rw [HN.out]; omega, by rw [HN.out]; omega, hcm, HI4.out, hB4⟩
  · go_wp2_with fail
    refine HBT.out.mono ?_
    clear HBT
    rintro e w5 ⟨v, rfl, a5, c5, l5, rfl, h51, h52, h53, hi5, hr5, hg5⟩
    have hB5 := hB4.grown hg5 hB4.size (by intro q hq; injection hq with hq; omega)
    have HI5 := hidden hi5
    clear hg5 hi5 hr5
    go_wp2_with fail
    go_ret
    exact ⟨a5, c5, l5, rfl, by omega, h52, h53, HI5.out, hB5⟩

end Go.Proofs.Ytplkhpkbfhpjeaa

/-
  spec.l11Given and spec.FindName.
-/
import Derived.Test.YtjakkiidedmifaaLnkP
import Derived.Laws.ResultCell
import Derived.BigQuiet
namespace Go.Proofs.Ytjakkiidedmifaa
open Go.RowKit

theorem results_cell_row2 {P : Program} {fn : Func} {p u v : Tmp} {ty : TypeId} (h : fn.results = #[.cell p ty, .tmp u, .tmp v]) (tmps : Array Value) (w : World) (g : Nat) (t : TypeId) (cs : Array Value) (fr : Nat × Nat) (d : TypeDesc)
    (hp : tmps.getD p undef = .pointer (some ⟨g, 0, none⟩)) (hg : w.heap[g]? = some (.cells cs t fr))
    (hu : P.underlying ty = some d) (hd : (match d with | .struct _ | .array _ _ => true | _ => false) = true) (hi : (P.info? ty).map (·.size) = some cs.size) :
    (results fn tmps).run P w = .ok (.tuple #[.agg cs, tmps.getD u undef, tmps.getD v undef]) w := by
  have e : (results fn tmps).run P w = ((asAddr (tmps.getD p undef)).run P w).andThen fun a w₁ => ((loadVar ty a).run P w₁).andThen fun x w₂ => .ok (.tuple #[x, tmps.getD u undef, tmps.getD v undef]) w₂ := by
    simp only [results, h]
    simp [Sem.run_bind, Result.andThen]
  rw [e, hp]
  simp [asAddr, run_loadVar_row w g t ty cs fr d hg hu hd hi, Result.andThen]
theorem results_cell_row1 {P : Program} {fn : Func} {p u : Tmp} {ty : TypeId} (h : fn.results = #[.cell p ty, .tmp u]) (tmps : Array Value) (w : World) (g : Nat) (t : TypeId) (cs : Array Value) (fr : Nat × Nat) (d : TypeDesc)
    (hp : tmps.getD p undef = .pointer (some ⟨g, 0, none⟩)) (hg : w.heap[g]? = some (.cells cs t fr))
    (hu : P.underlying ty = some d) (hd : (match d with | .struct _ | .array _ _ => true | _ => false) = true) (hi : (P.info? ty).map (·.size) = some cs.size) :
    (results fn tmps).run P w = .ok (.tuple #[.agg cs, tmps.getD u undef]) w := by
  rw [results_cell_tmp h, hp]
  simp [asAddr, run_loadVar_row w g t ty cs fr d hg hu hd hi, Result.andThen]
/-- What is answered of a name. -/
def GaveA (w : World) (u : Use) (e : Ending) (w' : World) : Prop := e = .returned (.tuple #[.agg #[.int .i64 u.inn, .int .i64 u.at_], .int .i64 u.strong, .bool u.given]) ∧ Below w.heap.size w w'
set_option maxRecDepth 100000 in
set_option maxHeartbeats 4000000 in
theorem l11Given_any (w : World) (B : Nat) (a : Option Addr) (c n : Nat) (L : List Oj) (hn : n = L.length) (h : Objs w B a L) (hB : B ≤ w.heap.size) (hlen : n ≤ 1000) (hf : ∀ y ∈ L, y.ms.length ≤ 1000) (s : ByteArray) :
    Calls Try.prog 50 #[.slice a n c, .string s] w (GaveA w (giveOf s (itemsUp (L.map Oj.ms) n))) := by
  obtain ⟨U, hU⟩ : ∃ q, giveOf s (itemsUp (L.map Oj.ms) n) = q := ⟨_, rfl⟩
  rw [hU]
  have HU := hidden hU
  have HN := hidden hn
  have H1 := hidden h
  have HF := hidden hf
  have hR0 : Has ((w.alloc (.cells #[.int .i64 0, .int .i64 0] 32)).alloc (.cells #[.int .i64 0, .int .i64 0] 32)) w.heap.size 32 #[.int .i64 0, .int .i64 0] := (Has.new _ _ _).alloc _
  have hO0 : Has ((w.alloc (.cells #[.int .i64 0, .int .i64 0] 32)).alloc (.cells #[.int .i64 0, .int .i64 0] 32)) (w.heap.size + 1) 32 #[.int .i64 0, .int .i64 0] := by
    have := Has.new (w.alloc (.cells #[.int .i64 0, .int .i64 0] 32)) 32 #[.int .i64 0, .int .i64 0]
    simpa using this
  have hb0 : Below w.heap.size w ((w.alloc (.cells #[.int .i64 0, .int .i64 0] 32)).alloc (.cells #[.int .i64 0, .int .i64 0] 32)) := ((Below.refl _ _).alloc (Nat.le_refl _) _).alloc (by simp) _
  have HR0 := hidden hR0
  have HO0 := hidden hO0
  have HB0 := hidden hb0
  clear hn h hf hR0 hO0 hb0 hU
  go_enter Try.func50, Try.ntmps50
  go_wp2_with fail
  go_loopw [8, 9, 10] (fun sv fv kv wr => ∃ (k : Nat) (u : Use) (P : List It), kv = .int .i64 k ∧ k ≤ n ∧ sv = .int .i64 u.strong ∧ fv = .bool u.given ∧ Hid (u = giveOf s P) ∧ Hid (P = itemsUp (L.map Oj.ms) k) ∧ P.length ≤ 1000 * k ∧ Hid (Has wr w.heap.size 32 #[.int .i64 0, .int .i64 0]) ∧ Hid (Has wr (w.heap.size + 1) 32 #[.int .i64 u.inn, .int .i64 u.at_]) ∧ Hid (Below w.heap.size w wr)) (fun _ _ kv _ => n - (intOf kv).toNat)
  case atStart => exact ⟨0, Use.zero, [], rfl, Nat.zero_le _, rfl, rfl, hidden rfl, hidden rfl, by simp, HR0, HO0, HB0⟩
  case round =>
    obtain ⟨k, u, P, rfl, hk, rfl, rfl, hu, hP, hPl, hR', hO', hb⟩ := hrel
    clear HR0 HO0 HB0
    by_cases hlt : k < n
    · have hi : (k : Int) < (n : Int) := by omega
      have hkl : k < L.length := by rw [← HN.out]; exact hlt
      obtain ⟨y, hy⟩ : ∃ y, L[k] = y := ⟨_, rfl⟩
      have hy2 : L[k]? = some y := by rw [List.getElem?_eq_getElem hkl, hy]
      have hym : y ∈ L := List.mem_of_getElem? hy2
      have hm1 := HF.out y hym
      obtain ⟨m, hm⟩ : ∃ q, y.ms.length = q := ⟨_, rfl⟩
      rw [hm] at hm1
      have HLK : Hid ((L.map Oj.ms)[k]? = some y.ms) := by show _ = _; rw [List.getElem?_map, hy2]; rfl
      have HX : Hid (∀ W, Below w.heap.size w W → ∃ b1 o1, a = some ⟨b1, o1, none⟩ ∧ W.cell? ⟨b1, o1 + k * 2 + 1, none⟩ = some (.slice y.a2 m y.c2) ∧ Syms W B y.a2 y.ms) := fun W hW => by
        have h1 := H1.out.below (hW.mono hB)
        obtain ⟨b1, o1, e1, _, _, p1⟩ := h1.at_ hkl
        rw [hy] at p1
        rw [hm] at p1
        exact ⟨b1, o1, e1, p1, h1.syms y hym⟩
      have HM := hidden hm
      obtain ⟨b1, o1, rfl, _⟩ := HX.out wr hb.out
      have HP0 : Hid (P = itemsAt (L.map Oj.ms) k 0) := by show _ = _; rw [itemsAt_zero]; exact hP.out
      clear hy hy2 hym hkl hP hm
      obtain ⟨w9, rfl⟩ : ∃ q, q = wr := ⟨_, rfl⟩
      go_wp2_with fail
      clear hi
      go_loopw [8, 9, 11] (fun sv fv jv wr => ∃ (j : Nat) (u : Use) (P : List It), jv = .int .i64 j ∧ j ≤ m ∧ sv = .int .i64 u.strong ∧ fv = .bool u.given ∧ Hid (u = giveOf s P) ∧ Hid (P = itemsAt (L.map Oj.ms) k j) ∧ P.length ≤ 1000 * k + j ∧ Hid (Has wr w.heap.size 32 #[.int .i64 0, .int .i64 0]) ∧ Hid (Has wr (w.heap.size + 1) 32 #[.int .i64 u.inn, .int .i64 u.at_]) ∧ Hid (Below w.heap.size w wr)) (fun _ _ jv _ => m - (intOf jv).toNat)
      case atStart => exact ⟨0, u, P, rfl, Nat.zero_le _, rfl, rfl, hu, HP0, by omega, hR', hO', hb⟩
      case round =>
        clear hu hPl hR' hO' hb HP0
        obtain ⟨j, u, P, rfl, hj, rfl, rfl, hu, hP, hPl, hR', hO', hb⟩ := hrel
        obtain ⟨b1', o1', e1, p1, hsy⟩ := HX.out wr hb.out
        injection e1 with e1
        injection e1 with e1 e2
        subst e1
        subst e2
        by_cases hltj : j < m
        · have hij : (j : Int) < (m : Int) := by omega
          have hjl : j < y.ms.length := by rw [HM.out]; exact hltj
          obtain ⟨b2, o2, ea2, _, p2, p3, p4, p5⟩ := hsy.at_ hjl
          rw [ea2] at p1
          obtain ⟨x, hx⟩ : ∃ x, y.ms[j] = x := ⟨_, rfl⟩
          have hx2 : y.ms[j]? = some x := by rw [List.getElem?_eq_getElem hjl, hx]
          rw [hx] at p2 p3 p4 p5
          have HPN : Hid (P ++ [⟨k, j, x⟩] = itemsAt (L.map Oj.ms) k (j + 1)) := by show _ = _; rw [itemsAt_next HLK.out hx2, ← hP.out]
          have hst := giveStrong_le s P
          rw [← hu.out] at hst
          obtain ⟨xn, xb, xl, xv⟩ := x
          obtain ⟨ui, ua, ug, us, uw⟩ := u
          simp only at p2 p3 p4 p5 hst hO' ⊢
          have hqw : w.heap.size + 1 < wr.heap.size := hO'.out.lt
          obtain ⟨hst0, hst1⟩ := hst
          have hst2 : us ≤ 2000000 := by omega
          have hba : Below w.heap.size w (wr.alloc (.cells #[.string xn, .int .i64 xb, .int .i64 xl, .int .i64 xv] 37)) := hb.out.alloc hb.out.size _
          have hO := hO'.out.alloc (.cells #[.string xn, .int .i64 xb, .int .i64 xl, .int .i64 xv] 37)
          have hR := hR'.out.alloc (.cells #[.string xn, .int .i64 xb, .int .i64 xl, .int .i64 xv] 37)
          have hSA : Has (wr.alloc (.cells #[.string xn, .int .i64 xb, .int .i64 xl, .int .i64 xv] 37)) wr.heap.size 37 #[.string xn, .int .i64 xb, .int .i64 xl, .int .i64 xv] := Has.new _ _ _
          obtain ⟨Wa, hWa⟩ : ∃ q, wr.alloc (.cells #[.string xn, .int .i64 xb, .int .i64 xl, .int .i64 xv] 37) = q := ⟨_, rfl⟩
          obtain ⟨qs, hqs⟩ : ∃ q, wr.heap.size = q := ⟨_, rfl⟩
          rw [hWa] at hba hO hR hSA
          rw [hqs] at hSA hqw
          have HWA := hidden hWa
          have HQS := hidden hqs
          have HSA := hidden hSA
          clear hjl hx hx2 ea2 hsy hst1 hWa hqs hSA hO' hR' hb
          go_upto_region 11 with fail
          rw [HWA.out, HQS.out]
          clear HWA HQS p1 p2 p3 p4 p5
          have c0 : Wa.cell? ⟨w.heap.size + 1, 0, none⟩ = some (.int .i64 ui) := hO.cell 0
          have c1 : Wa.cell? ⟨w.heap.size + 1, 1, none⟩ = some (.int .i64 ua) := hO.cell 1
          have f0 : Wa.frozen? ⟨w.heap.size + 1, 0, none⟩ = false := hO.free 0
          have f1 : Wa.frozen? ⟨w.heap.size + 1, 1, none⟩ = false := hO.free 1
          have y0 : Wa.cell? ⟨qs, 0, none⟩ = some (.string xn) := HSA.out.cell 0
          have y1 : Wa.cell? ⟨qs, 1, none⟩ = some (.int .i64 xb) := HSA.out.cell 1
          have y2 : Wa.cell? ⟨qs, 2, none⟩ = some (.int .i64 xl) := HSA.out.cell 2
          by_cases hnx : xn = s
          · have hd : (xn.toList == s.toList) = true := by rw [hnx]; simp
            have hd' : (xn.toList != s.toList) = false := by rw [hnx]; simp
            by_cases hb0 : xb = 0
            · have e0 : (xb == 0) = true := by simp [hb0]
              have HG : Hid ((⟨ui, ua, ug, us, uw⟩ : Use) = giveOf s (P ++ [⟨k, j, ⟨xn, xb, xl, xv⟩⟩])) := by
                show _ = _
                rw [giveOf_snoc, ← hu.out]
                simp [Use.stepG, hb0]
              have HO2 := hidden hO
              have HR2 := hidden hR
              have HB2 := hidden hba
              clear hu hP hO hR hba hb0 hnx
              go_wp2_with fail
              go_roundw
              case rel => exact ⟨j + 1, _, _, by go_num, by omega, rfl, rfl, HG, HPN, by rw [List.length_append, List.length_singleton]; omega, HR2, HO2, HB2⟩
              case measure => simp [intOf]; omega
            have e0 : (xb == 0) = false := by simp [hb0]
            by_cases hl1 : xl = -1
            · have e1 : (xl == -1) = true := by simp [hl1]
              have HG : Hid ((⟨ui, ua, ug, us, uw⟩ : Use) = giveOf s (P ++ [⟨k, j, ⟨xn, xb, xl, xv⟩⟩])) := by
                show _ = _
                rw [giveOf_snoc, ← hu.out]
                simp [Use.stepG, hl1]
              have HO2 := hidden hO
              have HR2 := hidden hR
              have HB2 := hidden hba
              clear hu hP hO hR hba hl1 hb0 hnx
              go_wp2_with fail
              go_roundw
              case rel => exact ⟨j + 1, _, _, by go_num, by omega, rfl, rfl, HG, HPN, by rw [List.length_append, List.length_singleton]; omega, HR2, HO2, HB2⟩
              case measure => simp [intOf]; omega
            have e1 : (xl == -1) = false := by simp [hl1]
            by_cases hb1 : xb = 1
            · have e2 : (xb == 1) = true := by simp [hb1]
              by_cases hs0 : us = 0
              · have e3 : (us == 0) = true := by simp [hs0]
                have HG : Hid ((⟨(k : Int), (j : Int), true, us + 1, uw⟩ : Use) = giveOf s (P ++ [⟨k, j, ⟨xn, xb, xl, xv⟩⟩])) := by
                  show _ = _
                  rw [giveOf_snoc, ← hu.out]
                  simp [Use.stepG, hl1, hb1, hs0, hnx]
                have hO2 := (hO.put 0 (.int .i64 (k : Int))).put 1 (.int .i64 (j : Int))
                have hgs : Wa.grownBy ((Wa.setCell ⟨w.heap.size + 1, 0, none⟩ (.int .i64 (k : Int))).setCell ⟨w.heap.size + 1, 1, none⟩ (.int .i64 (j : Int))) (some (w.heap.size + 1)) := only_trans (only_put' 0 _) (only_put' 1 _)
                have hR2 := hR.grown hgs (by intro e; injection e with e; omega)
                have hS2 := HSA.out.grown hgs (by intro e; injection e with e; omega)
                have hB2 := hba.grown hgs hba.size (by intro q hq; injection hq with hq; omega)
                obtain ⟨Ws, hWs⟩ : ∃ q, ((Wa.setCell ⟨w.heap.size + 1, 0, none⟩ (.int .i64 (k : Int))).setCell ⟨w.heap.size + 1, 1, none⟩ (.int .i64 (j : Int))) = q := ⟨_, rfl⟩
                rw [hWs] at hO2 hR2 hS2 hB2
                have HWS := hidden hWs
                have z0 : Ws.cell? ⟨qs, 0, none⟩ = some (.string xn) := hS2.cell 0
                have z1 : Ws.cell? ⟨qs, 1, none⟩ = some (.int .i64 xb) := hS2.cell 1
                have z2 : Ws.cell? ⟨qs, 2, none⟩ = some (.int .i64 xl) := hS2.cell 2
                have HO2 := hidden hO2
                have HR2 := hidden hR2
                have HB2 := hidden hB2
                clear hS2 hO2 hR2 hB2 hWs
                clear hu hP hO hR hba hgs hs0 hb1 hl1 hb0 hnx
                go_upto_region 14 with fail
                rw [HWS.out]
                clear HWS
                go_wp2_with fail
                go_roundw
                case rel => exact ⟨j + 1, _, _, by go_num, by omega, rfl, rfl, HG, HPN, by rw [List.length_append, List.length_singleton]; omega, HR2, HO2, HB2⟩
                case measure => simp [intOf]; omega
              have e3 : (us == 0) = false := by simp [hs0]
              rcases ug with _ | _
              · have HG : Hid ((⟨(k : Int), (j : Int), true, us + 1, uw⟩ : Use) = giveOf s (P ++ [⟨k, j, ⟨xn, xb, xl, xv⟩⟩])) := by
                  show _ = _
                  rw [giveOf_snoc, ← hu.out]
                  simp [Use.stepG, hl1, hb1, hs0, hnx]
                have hO2 := (hO.put 0 (.int .i64 (k : Int))).put 1 (.int .i64 (j : Int))
                have hgs : Wa.grownBy ((Wa.setCell ⟨w.heap.size + 1, 0, none⟩ (.int .i64 (k : Int))).setCell ⟨w.heap.size + 1, 1, none⟩ (.int .i64 (j : Int))) (some (w.heap.size + 1)) := only_trans (only_put' 0 _) (only_put' 1 _)
                have hR2 := hR.grown hgs (by intro e; injection e with e; omega)
                have hS2 := HSA.out.grown hgs (by intro e; injection e with e; omega)
                have hB2 := hba.grown hgs hba.size (by intro q hq; injection hq with hq; omega)
                obtain ⟨Ws, hWs⟩ : ∃ q, ((Wa.setCell ⟨w.heap.size + 1, 0, none⟩ (.int .i64 (k : Int))).setCell ⟨w.heap.size + 1, 1, none⟩ (.int .i64 (j : Int))) = q := ⟨_, rfl⟩
                rw [hWs] at hO2 hR2 hS2 hB2
                have HWS := hidden hWs
                have z0 : Ws.cell? ⟨qs, 0, none⟩ = some (.string xn) := hS2.cell 0
                have z1 : Ws.cell? ⟨qs, 1, none⟩ = some (.int .i64 xb) := hS2.cell 1
                have z2 : Ws.cell? ⟨qs, 2, none⟩ = some (.int .i64 xl) := hS2.cell 2
                have HO2 := hidden hO2
                have HR2 := hidden hR2
                have HB2 := hidden hB2
                clear hS2 hO2 hR2 hB2 hWs
                clear hu hP hO hR hba hgs hs0 hb1 hl1 hb0 hnx
                go_upto_region 14 with fail
                rw [HWS.out]
                clear HWS
                go_wp2_with fail
                go_roundw
                case rel => exact ⟨j + 1, _, _, by go_num, by omega, rfl, rfl, HG, HPN, by rw [List.length_append, List.length_singleton]; omega, HR2, HO2, HB2⟩
                case measure => simp [intOf]; omega
              · have HG : Hid ((⟨ui, ua, true, us + 1, uw⟩ : Use) = giveOf s (P ++ [⟨k, j, ⟨xn, xb, xl, xv⟩⟩])) := by
                  show _ = _
                  rw [giveOf_snoc, ← hu.out]
                  simp [Use.stepG, hl1, hb1, hs0, hnx]
                have HO2 := hidden hO
                have HR2 := hidden hR
                have HB2 := hidden hba
                clear hu hP hO hR hba hs0 hb1 hl1 hb0 hnx
                go_wp2_with fail
                go_roundw
                case rel => exact ⟨j + 1, _, _, by go_num, by omega, rfl, rfl, HG, HPN, by rw [List.length_append, List.length_singleton]; omega, HR2, HO2, HB2⟩
                case measure => simp [intOf]; omega
            have e2 : (xb == 1) = false := by simp [hb1]
            rcases ug with _ | _
            · have HG : Hid ((⟨(k : Int), (j : Int), true, us, uw⟩ : Use) = giveOf s (P ++ [⟨k, j, ⟨xn, xb, xl, xv⟩⟩])) := by
                show _ = _
                rw [giveOf_snoc, ← hu.out]
                simp [Use.stepG, hl1, hb0, hb1, hnx]
              have hO2 := (hO.put 0 (.int .i64 (k : Int))).put 1 (.int .i64 (j : Int))
              have hgs : Wa.grownBy ((Wa.setCell ⟨w.heap.size + 1, 0, none⟩ (.int .i64 (k : Int))).setCell ⟨w.heap.size + 1, 1, none⟩ (.int .i64 (j : Int))) (some (w.heap.size + 1)) := only_trans (only_put' 0 _) (only_put' 1 _)
              have hR2 := hR.grown hgs (by intro e; injection e with e; omega)
              have hS2 := HSA.out.grown hgs (by intro e; injection e with e; omega)
              have hB2 := hba.grown hgs hba.size (by intro q hq; injection hq with hq; omega)
              obtain ⟨Ws, hWs⟩ : ∃ q, ((Wa.setCell ⟨w.heap.size + 1, 0, none⟩ (.int .i64 (k : Int))).setCell ⟨w.heap.size + 1, 1, none⟩ (.int .i64 (j : Int))) = q := ⟨_, rfl⟩
              rw [hWs] at hO2 hR2 hS2 hB2
              have HWS := hidden hWs
              have z0 : Ws.cell? ⟨qs, 0, none⟩ = some (.string xn) := hS2.cell 0
              have z1 : Ws.cell? ⟨qs, 1, none⟩ = some (.int .i64 xb) := hS2.cell 1
              have z2 : Ws.cell? ⟨qs, 2, none⟩ = some (.int .i64 xl) := hS2.cell 2
              have HO2 := hidden hO2
              have HR2 := hidden hR2
              have HB2 := hidden hB2
              clear hS2 hO2 hR2 hB2 hWs
              clear hu hP hO hR hba hgs hb1 hl1 hb0 hnx
              go_upto_region 14 with fail
              rw [HWS.out]
              clear HWS
              go_wp2_with fail
              go_roundw
              case rel => exact ⟨j + 1, _, _, by go_num, by omega, rfl, rfl, HG, HPN, by rw [List.length_append, List.length_singleton]; omega, HR2, HO2, HB2⟩
              case measure => simp [intOf]; omega
            · have HG : Hid ((⟨ui, ua, true, us, uw⟩ : Use) = giveOf s (P ++ [⟨k, j, ⟨xn, xb, xl, xv⟩⟩])) := by
                show _ = _
                rw [giveOf_snoc, ← hu.out]
                simp [Use.stepG, hl1, hb0, hb1]
              have HO2 := hidden hO
              have HR2 := hidden hR
              have HB2 := hidden hba
              clear hu hP hO hR hba hb1 hl1 hb0 hnx
              go_wp2_with fail
              go_roundw
              case rel => exact ⟨j + 1, _, _, by go_num, by omega, rfl, rfl, HG, HPN, by rw [List.length_append, List.length_singleton]; omega, HR2, HO2, HB2⟩
              case measure => simp [intOf]; omega
          · have hd : (xn.toList == s.toList) = false := str_ne hnx
            have hd' : (xn.toList != s.toList) = true := by simp [bne, hd]
            have HG : Hid ((⟨ui, ua, ug, us, uw⟩ : Use) = giveOf s (P ++ [⟨k, j, ⟨xn, xb, xl, xv⟩⟩])) := by
              show _ = _
              rw [giveOf_snoc, ← hu.out]
              rw [if_neg hnx]
            have HO2 := hidden hO
            have HR2 := hidden hR
            have HB2 := hidden hba
            clear hu hP hO hR hba hnx
            go_wp2_with fail
            go_roundw
            case rel => exact ⟨j + 1, _, _, by go_num, by omega, rfl, rfl, HG, HPN, by rw [List.length_append, List.length_singleton]; omega, HR2, HO2, HB2⟩
            case measure => simp [intOf]; omega
        · have hij : ¬ (j : Int) < (m : Int) := by omega
          have HPU : Hid (P = itemsUp (L.map Oj.ms) (k + 1)) := by
            show _ = _
            rw [hP.out]; exact itemsAt_all HLK.out (by rw [HM.out]; omega)
          clear hP hsy
          go_wp2_with fail
          go_roundw
          case rel => exact ⟨k + 1, u, P, by go_num, by omega, rfl, rfl, hu, HPU, by omega, hR', hO', hb⟩
          case measure => simp [intOf]; omega
    · have hi : ¬ (k : Int) < (n : Int) := by omega
      have hkn : k = n := by omega
      subst hkn
      have hue : U = u := by rw [← HU.out, ← hP.out, ← hu.out]
      subst hue
      obtain ⟨ui, ua, ug, us, uw⟩ := U
      simp only at hO' ⊢
      have hR := hR'.out
      have o0 : wr.cell? ⟨w.heap.size + 1, 0, none⟩ = some (.int .i64 ui) := hO'.out.cell 0
      have o1 : wr.cell? ⟨w.heap.size + 1, 1, none⟩ = some (.int .i64 ua) := hO'.out.cell 1
      have c0 : wr.cell? ⟨w.heap.size, 0, none⟩ = some (.int .i64 0) := hR.cell 0
      have c1 : wr.cell? ⟨w.heap.size, 1, none⟩ = some (.int .i64 0) := hR.cell 1
      have f0 := hR.free 0
      have f1 := hR.free 1
      have hF : Has ((wr.setCell ⟨w.heap.size, 0, none⟩ (.int .i64 ui)).setCell ⟨w.heap.size, 1, none⟩ (.int .i64 ua)) w.heap.size 32 #[.int .i64 ui, .int .i64 ua] := (hR.put 0 _).put 1 _
      have hG : Below w.heap.size w ((wr.setCell ⟨w.heap.size, 0, none⟩ (.int .i64 ui)).setCell ⟨w.heap.size, 1, none⟩ (.int .i64 ua)) := (hb.out.setCell (p := ⟨w.heap.size, 0, none⟩) (Nat.le_refl _) _).setCell (p := ⟨w.heap.size, 1, none⟩) (Nat.le_refl _) _
      have HF2 := hidden hF
      have HG2 := hidden hG
      clear hu hP HU hR hR' hO' hb hF hG hPl
      go_wp21
      refine bodyPost_ret (results_cell_row2 rfl _ _ w.heap.size 32 #[.int .i64 ui, .int .i64 ua] (0, 0) _ rfl HF2.out Try.underlying32 rfl (by kernel_rfl)) rfl ?_
      exact ⟨rfl, HG2.out⟩

end Go.Proofs.Ytjakkiidedmifaa

/-
  What impl.KeepSections calls: impl.sectionsIn, the test of the symbols that go, impl.symbolsWhere by a test, the library's Index over numbers; rows of sections whose lists are another object's.
-/
import Derived.Test.YtjpclpjhigongaaKepL
import Derived.Test.YtjpclpjhigongaaQueI
import Derived.Test.YtjpclpjhigongaaStpW
namespace Go.Proofs.Ytjpclpjhigongaa
open Go.RowKit

set_option maxRecDepth 100000 in
theorem indexI_any (w : World) (B : Nat) (Q : List Int) (ka : Option Addr) (nk kc : Nat) (hkv : Vals w B ka (Q.map (Value.int .i64))) (hkn : Q.length = nk) (hkm : nk ≤ 1048576) (x : Int) :
    Calls Try.prog 31 #[.slice ka nk kc, .int .i64 x] w fun e w' => e = .returned (.int .i64 (Lib.idxOf Q x)) ∧ w = w' := by
  rcases Nat.eq_zero_or_pos nk with rfl | hp
  · obtain rfl : Q = [] := List.eq_nil_of_length_eq_zero hkn
    exact (Try.slices_Index_int_empty ka kc x w).mono fun e w' ⟨h1, h2⟩ => ⟨h1, h2.symm⟩
  · obtain ⟨b, o, rfl, _, hcc⟩ := hkv (by rw [List.length_map, hkn]; exact hp)
    refine (Try.slices_Index_int b o nk kc Q x w (by omega) (by omega) (vals_int hcc)).mono fun e w' ⟨h1, h2⟩ => ⟨?_, h2.symm⟩
    rw [h1, List.take_of_length_le (by omega)]
theorem own_vals {W : World} {lo n c : Nat} {a : Option Addr} {Q : List Int} (h : W.ownsRow lo 3 1 (.slice a n c) n (Q.map (Value.int .i64))) (hn : n = Q.length) : Vals W W.heap.size a (Q.map (Value.int .i64)) := by
  subst hn
  obtain ⟨a', c', e', _, hv⟩ := vals_of_own (by rw [List.length_map]; exact h)
  rw [List.length_map] at e'
  injection e' with e1
  subst e1
  exact hv
set_option maxRecDepth 100000 in
set_option maxHeartbeats 2000000 in
theorem sectionsIn_any (w : World) (B : Nat) (a1 a2 : Option Addr) (c1 c2 n m : Nat) (Q : List Int) (ka : Option Addr) (nk kc : Nat) (hkv : Vals w B ka (Q.map (Value.int .i64))) (hkn : Q.length = nk) (hkm : nk ≤ 1048576) (hB : B ≤ w.heap.size) (hn : n ≤ 8) (N : Nat) (hN : (numsM 0 (marksQ n Q)).length = N) :
    Calls Try.prog 24 #[.agg #[.slice a1 n c1, .slice a2 m c2], .slice ka nk kc] w (AnsI w (numsM 0 (marksQ n Q)) N) := by
  have hA1 : Has (w.alloc (.cells #[.slice a1 n c1, .slice a2 m c2] 26)) w.heap.size 26 #[.slice a1 n c1, .slice a2 m c2] := Has.new _ _ _
  have hB1 : Below w.heap.size w (w.alloc (.cells #[.slice a1 n c1, .slice a2 m c2] 26)) := (Below.refl _ _).alloc (Nat.le_refl _) _
  obtain ⟨W1, hW1⟩ : ∃ q, (w.alloc (.cells #[.slice a1 n c1, .slice a2 m c2] 26)) = q := ⟨_, rfl⟩
  rw [hW1] at hA1 hB1
  have x0 : W1.cell? ⟨w.heap.size, 0, none⟩ = some (.slice a1 n c1) := hA1.cell 0
  obtain ⟨S, hS⟩ : ∃ q, marksQ n Q = q := ⟨_, rfl⟩
  have HSA : Hid (∀ k, k < n → S[k]? = some (decide ((k : Int) ∈ Q))) := fun k hk => by rw [← hS]; exact marksQ_at hk
  have HSL : Hid (S.length = n) := by show _ = _; rw [← hS, marksQ_length]
  have HC : Hid (∀ W, Below w.heap.size w W → ∀ x, Calls Try.prog 28 #[.slice ka nk kc, .int .i64 x] W fun e w' => e = .returned (.bool (decide (x ∈ Q))) ∧ W = w') := fun W hW x => containsI_any W w.heap.size Q ka nk kc ((hkv.more hB).below hW) hkn hkm x
  rw [hS] at hN
  rw [hS]
  have HNN := hidden hN
  have HW1 := hidden hW1
  have HB1 := hidden hB1
  clear hkv hkn hB hA1 hB1 hW1 hS hN
  go_enter Try.func24, Try.ntmps24
  go_upto_region 1 with fail
  rw [HW1.out]
  clear HW1
  go_wp2_with fail
  clear x0
  go_loopw [5, 10] (fun v i wr => ∃ (k p : Nat) (va : Option Addr) (vc : Nat), i = .int .i64 k ∧ v = .slice va p vc ∧ k ≤ n ∧ p ≤ k ∧ Hid ((numsM 0 (S.take k)).length = p) ∧ Hid (wr.ownsRow w.heap.size 3 1 (.slice va p vc) p ((numsM 0 (S.take k)).map (Value.int .i64))) ∧ Hid (Below w.heap.size w wr)) (fun _ i _ => n - (intOf i).toNat)
  case atStart => exact ⟨0, 0, none, 0, rfl, rfl, Nat.zero_le _, Nat.le_refl _, (by show _ = _; rfl), World.ownsRow_nil _ _ _ _, HB1⟩
  case round =>
    obtain ⟨k, p, va, vc, rfl, rfl, hk, hpk, hln, hrow, hbw⟩ := hrel
    clear HB1
    by_cases hlt : k < n
    · have hilt : (k : Int) < (n : Int) := by omega
      have hbv := HSA.out k hlt
      have HCT := hidden (HC.out wr hbw.out (k : Int))
      obtain ⟨bv, hb⟩ : ∃ q, decide ((k : Int) ∈ Q) = q := ⟨_, rfl⟩
      rw [hb] at hbv HCT
      have HNX := hidden (numsM_next hbv)
      clear hlt hbv hb
      go_wp2_with fail
      refine HCT.out.mono ?_
      clear HCT
      rintro e _ ⟨rfl, rfl⟩
      cases bv with
      | false =>
        have e : numsM 0 (S.take (k + 1)) = numsM 0 (S.take k) := by rw [HNX.out]; simp
        have HLN' : Hid ((numsM 0 (S.take (k + 1))).length = p) := by rw [e]; exact hln
        have HRW' : Hid (wr.ownsRow w.heap.size 3 1 (.slice va p vc) p ((numsM 0 (S.take (k + 1))).map (Value.int .i64))) := by rw [e]; exact hrow
        clear e HNX hln hrow
        go_wp2_with fail
        go_roundw
        case rel => exact ⟨k + 1, p, va, vc, by go_num, rfl, by omega, by omega, HLN', HRW', hbw⟩
        case measure => simp [intOf]; omega
      | true =>
        have e : numsM 0 (S.take (k + 1)) = numsM 0 (S.take k) ++ [(k : Int)] := by rw [HNX.out]; simp
        have HLN' : Hid ((numsM 0 (S.take (k + 1))).length = p + 1) := by show _ = _; rw [e, List.length_append, hln.out]; rfl
        have HE' := hidden e
        have hba : Below wr.heap.size wr (wr.alloc (.cells #[.int .i64 k] 3)) := (Below.refl _ _).alloc (Nat.le_refl _) _
        have HRA := hidden (hrow.out.kept (grown_only hba) (Classical.em _))
        have HNW : Hid (Has (wr.alloc (.cells #[.int .i64 k] 3)) wr.heap.size 3 #[.int .i64 k]) := Has.new _ _ _
        have HST : Hid (w.heap.size ≤ (wr.alloc (.cells #[.int .i64 k] 3)).heap.size) := Nat.le_trans hbw.out.size hba.size
        have HBA := hidden (hbw.out.alloc hbw.out.size (.cells #[.int .i64 k] 3))
        clear e hba hln hrow hbw HNX
        go_wp2_with (at_builtin; refine wpList_app_int _ rfl _ _ rfl w.heap.size _ p _ rfl HRA.out wr.heap.size 1 k rfl HNW.out (by omega) HST.out ?_)
        intro va' vc' W8 hrow8 hg8
        have HRW' : Hid (W8.ownsRow w.heap.size 3 1 (.slice va' (p + 1) vc') (p + 1) ((numsM 0 (S.take (k + 1))).map (Value.int .i64))) := by
          rw [HE'.out, List.map_append]; exact hrow8
        have HB8 := hidden (HBA.out.grown hg8 HBA.out.size (fun q hq => (HRA.out.lt q hq).1))
        clear hrow8 hg8 HRA HNW HST HBA HE'
        go_wp2_with fail
        go_roundw
        case rel => exact ⟨k + 1, p + 1, va', vc', by go_num, rfl, by omega, by omega, HLN', HRW', HB8⟩
        case measure => simp [intOf]; omega
    · have hilt : ¬ (k : Int) < (n : Int) := by omega
      have et : S.take k = S := List.take_of_length_le (by rw [HSL.out]; omega)
      have HRF : Hid (wr.ownsRow w.heap.size 3 1 (.slice va p vc) p ((numsM 0 S).map (Value.int .i64))) := by
        have := hrow.out
        rw [et] at this
        exact this
      have HPN : Hid (p = N) := by
        show _ = _
        rw [← hln.out, et]; exact HNN.out
      clear hlt et hln hrow
      go_wp2_with fail
      go_ret
      have e := HPN.out
      have hrf := HRF.out
      clear HPN HRF
      subst e
      exact ⟨_, _, rfl, HNN.out.symm, hrf, hbw.out⟩
set_option maxRecDepth 100000 in
set_option maxHeartbeats 2000000 in
theorem goes_test (w : World) (cb : Nat) (Q : List Int) (ka : Option Addr) (nk kc : Nat) (hc : w.cell? ⟨cb, 0, none⟩ = some (.slice ka nk kc)) (hkv : Vals w w.heap.size ka (Q.map (Value.int .i64))) (hkn : Q.length = nk) (hkm : nk ≤ 1048576) (y : Sm) :
    Calls Try.prog 26 #[.agg #[.string y.name, .int .i64 y.bind, .int .i64 y.loc, .int .i64 y.value], .pointer (some ⟨cb, 0, none⟩)] w fun e w' => e = .returned (.bool (decide (0 ≤ y.loc) && !decide (y.loc ∈ Q))) ∧ Below w.heap.size w w' := by
  have hX : Has (w.alloc (.cells #[.string y.name, .int .i64 y.bind, .int .i64 y.loc, .int .i64 y.value] 59)) w.heap.size 59 #[.string y.name, .int .i64 y.bind, .int .i64 y.loc, .int .i64 y.value] := Has.new _ _ _
  have hb : Below w.heap.size w (w.alloc (.cells #[.string y.name, .int .i64 y.bind, .int .i64 y.loc, .int .i64 y.value] 59)) := (Below.refl _ _).alloc (Nat.le_refl _) _
  have hcl := lt_of_cell hc
  obtain ⟨W1, hW1⟩ : ∃ q, w.alloc (.cells #[.string y.name, .int .i64 y.bind, .int .i64 y.loc, .int .i64 y.value] 59) = q := ⟨_, rfl⟩
  obtain ⟨bx, hbx⟩ : ∃ q, w.heap.size = q := ⟨_, rfl⟩
  rw [hW1] at hX hb
  have s0 : W1.cell? ⟨bx, 0, none⟩ = some (.string y.name) := by rw [← hbx]; exact hX.cell 0
  have s1 : W1.cell? ⟨bx, 1, none⟩ = some (.int .i64 y.bind) := by rw [← hbx]; exact hX.cell 1
  have s2 : W1.cell? ⟨bx, 2, none⟩ = some (.int .i64 y.loc) := by rw [← hbx]; exact hX.cell 2
  have s3 : W1.cell? ⟨bx, 3, none⟩ = some (.int .i64 y.value) := by rw [← hbx]; exact hX.cell 3
  have HIN := hidden (inSection_any W1 y)
  have HX := hidden hX
  have HB := hidden hb
  have HC : Hid (∀ W, Below W1.heap.size W1 W → W.cell? ⟨cb, 0, none⟩ = some (.slice ka nk kc) ∧ W.cell? ⟨bx, 2, none⟩ = some (.int .i64 y.loc)) := fun W hW => by
    have h1 := hb.trans (hW.mono hb.size)
    refine ⟨(h1.cell hcl).trans hc, ?_⟩
    rw [← hbx]
    exact (hX.below hW hX.lt).cell 2
  have HCO : Hid (∀ W, Below W1.heap.size W1 W → Calls Try.prog 28 #[.slice ka nk kc, .int .i64 y.loc] W fun e w' => e = .returned (.bool (decide (y.loc ∈ Q))) ∧ W = w') := fun W hW => containsI_any W w.heap.size Q ka nk kc (hkv.below (hb.trans (hW.mono hb.size))) hkn hkm y.loc
  have HW1 := hidden hW1
  have HBX := hidden hbx
  have HBT : Hid (∀ W, Below W1.heap.size W1 W → Below bx w W) := fun W hW => by rw [← hbx]; exact hb.trans (hW.mono hb.size)
  rw [hbx]
  clear hc hkv hkn hX hb hcl hW1 hbx
  go_enter Try.func26, Try.ntmps26
  go_upto_region 1 with fail
  rw [HW1.out, HBX.out]
  clear HW1 HBX
  by_cases h0 : 0 ≤ y.loc
  · have hd0 : decide (0 ≤ y.loc) = true := decide_eq_true h0
    rw [hd0] at HIN
    have HE : Hid ((decide (0 ≤ y.loc) && !decide (y.loc ∈ Q)) = !decide (y.loc ∈ Q)) := by
      show _ = _
      rw [hd0, Bool.true_and]
    clear h0 hd0
    go_wp2_with fail
    refine HIN.out.mono ?_
    clear HIN s0 s1 s2 s3
    rintro e w2 ⟨rfl, hb2⟩
    obtain ⟨q0, q1⟩ := HC.out w2 hb2
    have HCT := hidden (HCO.out w2 hb2)
    have HBE := hidden (HBT.out w2 hb2)
    clear hb2 HC HCO HB HBT
    go_wp2_with fail
    refine HCT.out.mono ?_
    clear HCT q0 q1
    rintro e _ ⟨rfl, rfl⟩
    go_wp2_with fail
    go_ret
    exact ⟨ret_bool HE.out.symm, HBE.out⟩
  · have hd0 : decide (0 ≤ y.loc) = false := decide_eq_false h0
    rw [hd0] at HIN
    have HE : Hid ((decide (0 ≤ y.loc) && !decide (y.loc ∈ Q)) = false) := by
      show _ = _
      rw [hd0, Bool.false_and]
    clear h0 hd0
    go_wp2_with fail
    refine HIN.out.mono ?_
    clear HIN s0 s1 s2 s3
    rintro e w2 ⟨rfl, hb2⟩
    have HBE := hidden (HBT.out w2 hb2)
    clear hb2 HC HCO HB HBT
    go_wp2_with fail
    go_ret
    exact ⟨ret_bool HE.out.symm, HBE.out⟩
set_option maxRecDepth 100000 in
set_option maxHeartbeats 2000000 in
theorem symbolsWhere_by (w : World) (B : Nat) (a1 a2 : Option Addr) (c1 c2 n m : Nat) (ms : List Sm) (tq : Sm → Bool) (cb : Nat) (hm : m = ms.length) (h2 : Syms w B a2 ms) (hB : B ≤ w.heap.size) (hlem : m ≤ 12)
    (hf : ∀ W y, Below w.heap.size w W → Calls Try.prog 26 #[.agg #[.string y.name, .int .i64 y.bind, .int .i64 y.loc, .int .i64 y.value], .pointer (some ⟨cb, 0, none⟩)] W fun e w' => e = .returned (.bool (tq y)) ∧ Below W.heap.size W w') :
    Calls Try.prog 25 #[.agg #[.slice a1 n c1, .slice a2 m c2], .func (.func 26) #[] #[.pointer (some ⟨cb, 0, none⟩)]] w fun e w' => (∃ M : Nat, e = .returned (.int .u16 M) ∧ InM tq ms M) ∧ Below w.heap.size w w' := by
  have hA : Has (w.alloc (.cells #[.slice a1 n c1, .slice a2 m c2] 26)) w.heap.size 26 #[.slice a1 n c1, .slice a2 m c2] := Has.new _ _ _
  have hBa : Below w.heap.size w (w.alloc (.cells #[.slice a1 n c1, .slice a2 m c2] 26)) := (Below.refl _ _).alloc (Nat.le_refl _) _
  obtain ⟨W1, hW1⟩ : ∃ q, w.alloc (.cells #[.slice a1 n c1, .slice a2 m c2] 26) = q := ⟨_, rfl⟩
  rw [hW1] at hA hBa
  have HW1 := hidden hW1
  have HM := hidden hm
  have H2 := hidden (h2.more hB)
  have HB1 := hidden hBa
  have HF := hidden hf
  have q1 : W1.cell? ⟨w.heap.size, 1, none⟩ = some (.slice a2 m c2) := hA.cell 1
  clear hW1 hm h2 hB hA hBa hf
  go_enter Try.func25, Try.ntmps25
  go_upto_region 1 with fail
  rw [HW1.out]
  clear HW1
  go_wp2_with fail
  clear q1
  go_loopw [5, 11] (fun mv i wr => ∃ k M : Nat, i = .int .i64 k ∧ mv = .int .u16 M ∧ k ≤ m ∧ Hid (Below w.heap.size w wr) ∧ Hid (InM tq (ms.take k) M)) (fun _ i _ => m - (intOf i).toNat)
  case atStart => exact ⟨0, 0, rfl, rfl, Nat.zero_le _, HB1, InM.start tq⟩
  case round =>
    obtain ⟨k, M, rfl, rfl, hk, hb, hM⟩ := hrel
    clear HB1
    by_cases hlt : k < m
    · have hilt : (k : Int) < (m : Int) := by omega
      have hkl : k < ms.length := by rw [← HM.out]; exact hlt
      obtain ⟨b, off, rfl, hbB, p0, p1, p2, p3⟩ := (H2.out.below hb.out).at_ hkl
      obtain ⟨y, hy⟩ : ∃ y, ms[k] = y := ⟨_, rfl⟩
      rw [hy] at p0 p1 p2 p3
      have hy2 : ms[k]? = some y := by rw [List.getElem?_eq_getElem hkl, hy]
      have HBS : Hid (Below w.heap.size w (wr.alloc (.cells #[.string y.name, .int .i64 y.bind, .int .i64 y.loc, .int .i64 y.value] 59))) := hb.out.alloc hb.out.size _
      have HC := hidden (HF.out (wr.alloc (.cells #[.string y.name, .int .i64 y.bind, .int .i64 y.loc, .int .i64 y.value] 59)) y HBS.out)
      have hlk : (ms.take k).length = k := by rw [List.length_take]; omega
      have HNX := hidden (hM.out.next y (by omega))
      rw [hlk, ← take_next hy2] at HNX
      have hbo : bits .or .u16 (M : Int) (IntKind.u16.wrap (2 ^ k)) = ((M ||| 2 ^ k : Nat) : Int) := by
        rw [wrap_pow k (by omega)]
        exact u16_or_nat M (2 ^ k) hM.out.1 (pow_lt16 (by omega))
      have hS : Has (wr.alloc (.cells #[.string y.name, .int .i64 y.bind, .int .i64 y.loc, .int .i64 y.value] 59)) wr.heap.size 59 #[.string y.name, .int .i64 y.bind, .int .i64 y.loc, .int .i64 y.value] := Has.new _ _ _
      have s0 := hS.cell 0
      have s1 := hS.cell 1
      have s2 := hS.cell 2
      have s3 := hS.cell 3
      obtain ⟨t, ht⟩ : ∃ t, tq y = t := ⟨_, rfl⟩
      rw [ht] at HC HNX
      clear hkl hbB hy hy2 hlk ht hS hM hb hlt
      go_wp2_with fail
      refine HC.out.mono ?_
      clear HC s0 s1 s2 s3 p0 p1 p2 p3
      rintro e w5 ⟨rfl, hb5⟩
      have HB5 := hidden (HBS.out.trans (hb5.mono HBS.out.size))
      clear hb5 HBS
      cases t with
      | true =>
        have HNX' : Hid (InM tq (ms.take (k + 1)) (M ||| 2 ^ k)) := HNX.out
        clear HNX
        go_wp2_with fail
        go_roundw
        case rel => exact ⟨k + 1, M ||| 2 ^ k, by go_num, rfl, by omega, HB5, HNX'⟩
        case measure => simp [intOf]; omega
      | false =>
        have HNX' : Hid (InM tq (ms.take (k + 1)) M) := HNX.out
        clear HNX hbo
        go_wp2_with fail
        go_roundw
        case rel => exact ⟨k + 1, M, by go_num, rfl, by omega, HB5, HNX'⟩
        case measure => simp [intOf]; omega
    · have hilt : ¬ (k : Int) < (m : Int) := by omega
      have HMF : Hid (InM tq ms M) := by
        have := hM.out
        rwa [List.take_of_length_le (by rw [← HM.out]; omega)] at this
      clear hlt hM hk
      go_wp2_with fail
      go_ret
      exact ⟨⟨M, rfl, HMF.out⟩, hb.out⟩
/-- Sections whose lists lie elsewhere, in a row of their own. -/
theorem sects_of_row {W : World} {lo B n c : Nat} {a : Option Addr} {l : List Sp} (h : W.ownsRow lo 64 6 (.slice a n c) n (flatS l)) (hn : n = l.length) (h1 : ∀ y ∈ l, Ints W .u8 B y.a1 y.s.bytes) (h2 : ∀ y ∈ l, Fixs W B y.a2 y.s.fixs) (hB : B ≤ W.heap.size) : Sects W W.heap.size a l := by
  subst hn
  refine ⟨fun hn => ?_, fun y hy => (h1 y hy).more hB, fun y hy => (h2 y hy).more hB⟩
  rcases h.2 with ⟨_, h0⟩ | ⟨g, cap, cur, hv, hgb, hh, _, _, _, ht⟩
  · omega
  have hh' : Has W g 64 cur := hh
  injection hv with hv _
  have key : ∀ j (u : Value), j < l.length * 6 → (flatS l)[j]? = some u → W.cell? ⟨g, 0 + j, none⟩ = some u := fun j u hj hu => by
    rw [Nat.zero_add, hh'.cell j, ← Array.getElem?_toList]
    rw [← ht, List.getElem?_take, if_pos hj] at hu
    exact hu
  refine ⟨g, 0, hv, hh'.lt, fun i y hi => ?_⟩
  have hil : i < l.length := (List.getElem?_eq_some_iff.1 hi).1
  obtain ⟨e0, e1, e2, e3, e4, e5⟩ := flatS_at l i y hi
  exact ⟨key _ _ (by omega) e0, by have := key _ _ (by omega) e1; rwa [← Nat.add_assoc] at this, by have := key _ _ (by omega) e2; rwa [← Nat.add_assoc] at this, by have := key _ _ (by omega) e3; rwa [← Nat.add_assoc] at this, by have := key _ _ (by omega) e4; rwa [← Nat.add_assoc] at this, by have := key _ _ (by omega) e5; rwa [← Nat.add_assoc] at this⟩
theorem flatM_setLoc : ∀ (ms : List Sm) (j : Nat) (m : Sm) (z : Int), ms[j]? = some m → (flatM ms).set (j * 4 + 2) (.int .i64 z) = flatM (ms.set j { m with loc := z })
  | [], _, _, _, h => by simp at h
  | x :: r, 0, f, z, h => by simp at h; subst h; simp [flatM]
  | x :: r, j + 1, f, z, h => by
    have ih := flatM_setLoc r j f z (by simpa using h)
    have e : ∀ x r, flatM (x :: r) = .string x.name :: .int .i64 x.bind :: .int .i64 x.loc :: .int .i64 x.value :: flatM r := fun x r => by simp [flatM]
    have e1 : (j + 1) * 4 + 2 = j * 4 + 2 + 1 + 1 + 1 + 1 := by omega
    rw [List.set_cons_succ, e, e, e1]
    simp only [List.set_cons_succ]
    rw [ih]
/-- A symbol's place is changed. -/
theorem Ob.setLoc {W : World} {q lo : Nat} {vs vm : Value} {ss : List Sp} {ms : List Sm} (h : Ob W q lo vs vm ss ms) {k : Nat} {m : Sm} (hk : ms[k]? = some m) :
    ∃ g c, vm = .slice (some ⟨g, 0, none⟩) ms.length c ∧ lo ≤ g ∧ (∃ cs, Has W g 59 cs) ∧ W.cell? ⟨g, k * 4, none⟩ = some (.string m.name) ∧ W.cell? ⟨g, k * 4 + 1, none⟩ = some (.int .i64 m.bind) ∧ W.cell? ⟨g, k * 4 + 2, none⟩ = some (.int .i64 m.loc) ∧ W.cell? ⟨g, k * 4 + 3, none⟩ = some (.int .i64 m.value) ∧
      ∀ z, Ob (W.setCell ⟨g, k * 4 + 2, none⟩ (.int .i64 z)) q lo vs vm ss (ms.set k { m with loc := z }) ∧ W.grownBy (W.setCell ⟨g, k * 4 + 2, none⟩ (.int .i64 z)) (some g) := by
  have hkl : k < ms.length := (List.getElem?_eq_some_iff.1 hk).1
  have h2 := h.syms
  rcases h2.2 with ⟨_, h0⟩ | ⟨g, cap, cur, rfl, hgb, hh, _⟩
  · omega
  have hh' : Has W g 59 cur := hh
  obtain ⟨t0, t1, t2, t3⟩ := flatM_at _ _ _ hk
  refine ⟨g, cap, rfl, hgb, ⟨cur, hh'⟩, ?_, ?_, ?_, ?_, fun z => ?_⟩
  · rw [h2.cellAt (k * 4) (by omega)]; exact t0
  · rw [h2.cellAt (k * 4 + 1) (by omega)]; exact t1
  · rw [h2.cellAt (k * 4 + 2) (by omega)]; exact t2
  · rw [h2.cellAt (k * 4 + 3) (by omega)]; exact t3
  obtain ⟨s1, hg⟩ := h2.stored (k * 4 + 2) (.int .i64 z)
  rw [flatM_setLoc _ _ _ z hk] at s1
  refine ⟨⟨h.obj.away (h.obj.differ hh' (by decide)) _, ?_, by rw [List.length_set]; exact s1⟩, hg⟩
  exact h.secs.other hh' (by decide) (by decide) (by decide) hg

end Go.Proofs.Ytjpclpjhigongaa

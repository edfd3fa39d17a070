/-
  spec.PlaceSections.
-/
import Derived.Test.YtiocchmlmcoieaaLayO
import Derived.Test.YtiocchmlmcoieaaLayR
namespace Go.Proofs.Ytiocchmlmcoieaa
open Go.RowKit

/-- The sections of objects. -/
def secsOf (L : List Oj) : List (List Sx) := L.map fun y => y.l.map Sp.s
theorem secsOf_same {L L' : List Oj} (h : L'.map Oj.o = L.map Oj.o) : secsOf L' = secsOf L := by
  have := congrArg (List.map Prod.fst) h
  rw [List.map_map, List.map_map] at this
  exact this
theorem shortO_same {L L' : List Oj} (h : L'.map Oj.o = L.map Oj.o) (hf : ∀ y ∈ L, y.short) : ∀ y ∈ L', y.short := fun y hy => by
  have hm : y.o ∈ L.map Oj.o := by rw [← h]; exact List.mem_map_of_mem hy
  obtain ⟨z, hz, e⟩ := List.mem_map.1 hm
  have e1 : z.l.map Sp.s = y.l.map Sp.s := congrArg Prod.fst e
  have e2 : z.ms = y.ms := congrArg Prod.snd e
  obtain ⟨⟨q1, q2⟩, q3, q4⟩ := hf z hz
  have e3 := congrArg List.length e1
  rw [List.length_map, List.length_map] at e3
  refine ⟨⟨by omega, fun s hs => ?_⟩, by rw [← e2]; exact q3, by rw [← e2]; exact q4⟩
  have : s.s ∈ z.l.map Sp.s := by rw [e1]; exact List.mem_map_of_mem hs
  obtain ⟨s', hs', e4⟩ := List.mem_map.1 this
  rw [← e4]; exact q2 s' hs'
theorem Oj.short.lens {y : Oj} (h : y.short) : y.lens :=
  ⟨by have := h.1.1; omega, by have := h.2.1; omega, fun z hz => by
    obtain ⟨a, b, c⟩ := h.1.2 z hz
    exact ⟨by unfold maxLen; omega, by omega, by omega⟩, fun x hx => by have := h.2.2 x hx; unfold maxLen; omega⟩
/-- The layout, as far as a kind, an object and a section. -/
def stK (Ss : List (List Sx)) (base : Int) (m k j : Nat) : Lo := (layK Ss base m).up.run (kindL (pksAt Ss k j) ((m : Int) + 1))
section
variable {Ss : List (List Sx)} {base : Int} {m k j : Nat} {ss : List Sx} {s : Sx}
theorem stK_zero : stK Ss base m 0 0 = (layK Ss base m).up := rfl
theorem stK_no (h : Ss[k]? = some ss) (hm : ss[j]? = some s) (hk : s.kind ≠ (m : Int) + 1) : stK Ss base m k (j + 1) = stK Ss base m k j := by
  unfold stK
  rw [pksAt_next h hm, kindL_no hk]
theorem stK_yes (h : Ss[k]? = some ss) (hm : ss[j]? = some s) (hk : s.kind = (m : Int) + 1) : stK Ss base m k (j + 1) = ⟨put2 (stK Ss base m k j).pl k j (upTo (stK Ss base m k j).e s.align), upTo (stK Ss base m k j).e s.align + s.long⟩ := by
  unfold stK
  rw [pksAt_next h hm, kindL_yes hk, Lo.run_snoc]
  rfl
theorem stK_row (h : Ss[k]? = some ss) (hj : ss.length ≤ j) : stK Ss base m k j = stK Ss base m (k + 1) 0 := by
  unfold stK
  rw [pksAt_all h hj, pksAt_zero]
theorem stK_end (h : Ss.length ≤ k) (hk : k ≤ Ss.length) : stK Ss base m k 0 = layK Ss base (m + 1) := by
  obtain rfl : k = Ss.length := by omega
  unfold stK
  rw [pksAt_zero]
  rfl
theorem stK_lens : (stK Ss base m k j).pl.map List.length = Ss.map List.length := by
  unfold stK
  rw [Lo.run_lens]
  exact layK_lens Ss base m
end
/-- Whether there is a layout. -/
def layOk (L : List Oj) (base : Int) : Bool := validA (L.map Oj.o) && decide (0 ≤ base ∧ base ≤ 4096 ∧ base % 8 = 0)
/-- The places, and the place behind all. -/
def laidL (L : List Oj) (base : Int) : Lo := if layOk L base = true then layK (secsOf L) base 3 else ⟨[], 0⟩
theorem laid_no {L : List Oj} {base : Int} (h : layOk L base = false) : laidL L base = ⟨[], 0⟩ := by unfold laidL; rw [h]; rfl
theorem laid_yes {L : List Oj} {base : Int} (h : layOk L base = true) : laidL L base = layK (secsOf L) base 3 := by unfold laidL; rw [if_pos h]
/-- Places that are answered. -/
def PlacesE (w : World) (x : Lo) (n : Nat) (ok : Bool) (e : Ending) (w' : World) : Prop :=
  ∃ (a : Option Addr) (c : Nat), e = .returned (.tuple #[.slice a n c, .int .i64 x.e, .bool ok]) ∧ AnsR w x.pl a n c w'
/-- append(row, list of numbers). -/
theorem wpList_app_ll {ops : Array Oper} {rest : List Oper} {o : Oper} {a : Act} (w : World) {Q : Exit → Act → World → Prop} (hgd : o.guard = none) (s x : Operand) (ho : o.op = .call { callee := .builtin .append, args := #[s, x], argTypes := #[34, 34] })
    (base : Nat) (v : Value) (n : Nat) (xs : List Value) (hs : a.eval s = v) (hown : w.ownsRow base 39 1 v n xs) (g c : Nat) (u : Value) (hx : a.eval x = .slice (some ⟨g, 0, none⟩) 1 c) (hh : Has w g 39 #[u]) (h1 : u.oneCell' = true) (h63 : n ≤ 10000000) (hbase : base ≤ w.heap.size)
    (h : ∀ a' c' w', w'.ownsRow base 39 1 (.slice a' (n + 1) c') (n + 1) (xs ++ [u]) → w.grownBy w' v.ownBlock → ((Value.slice a' (n + 1) c').ownBlock = v.ownBlock ∨ w'.ownsRow w.heap.size 39 1 (.slice a' (n + 1) c') (n + 1) (xs ++ [u])) → wpList Try.prog ops Q rest (a.put o.dst (.slice a' (n + 1) c')) w') : wpList Try.prog ops Q (o :: rest) a w :=
  wpList_plain hgd fun _ hK => wp_append_fresh s x 34 39 ho _ 1 24 Try.info_ints Try.underlying34 rfl (by decide) (by decide) base v n xs hs hown g 0 1 c [u] hx rfl (by omega) (fun j u' hj => by rw [Nat.zero_add, hh.cell]; simpa using hj) (fun u' hu => by rw [List.mem_singleton.1 hu]; exact h1) (by omega) hbase fun v' w' h2 h3 h4 => by
    obtain ⟨a', c', rfl⟩ := own_shape h2
    exact hK _ _ (h a' c' w' h2 h3 h4)
theorem rep_int (n : Nat) : (madeCells #[Value.int .i64 0] n) = ((List.replicate n (0 : Int)).map (Value.int .i64)).toArray := by
  apply Array.toList_inj.1
  rw [toList_madeCells_one]
  simp
set_option maxRecDepth 100000 in
set_option maxHeartbeats 8000000 in
theorem placeSections'_any (w : World) (B : Nat) (a : Option Addr) (c n : Nat) (L : List Oj) (base : Int) (hn : n = L.length) (h : Objs w B a L) (hB : B ≤ w.heap.size) (hlen : n ≤ 1048576) (hl : ∀ y ∈ L, y.short) (N : Nat) (hN : (laidL L base).pl.length = N) :
    Calls Try.prog 14 #[.slice a n c, .int .i64 base] w (PlacesE w (laidL L base) N (layOk L base)) := by
  have HOW := hidden (l1OwnObjectList_any w B a c n L hn h hB hlen hl)
  unfold OwnObs at HOW
  have HNN := hidden hN
  have HLS := hidden (fun (L1 : List Oj) (h1 : L1.map Oj.o = L.map Oj.o) => shortO_same h1 hl)
  have HNL := hidden hn
  clear h hl hB hN hn
  go_enter Try.func14, Try.ntmps14
  go_wp2_with fail
  refine HOW.out.mono ?_
  clear HOW
  rintro e w1 ⟨L1, a1, c1, rfl, hL1n, hL1o, hO1, hb1⟩
  have HSH := hidden (HLS.out L1 hL1o)
  have HO1 := hidden hO1
  have HLO := hidden hL1o
  have HB1 := hidden hb1
  have HVA := hidden (objectsValid'_any (w1.alloc (.cells #[] 39)) w1.heap.size a1 c1 n L1 hL1n.symm (hO1.below ((Below.refl _ _).alloc (Nat.le_refl _) _)) (by simp) (by omega) (fun y hy => (HSH.out y hy).lens))
  obtain ⟨v, hv⟩ : ∃ q, validA (L.map Oj.o) = q := ⟨_, rfl⟩
  rw [hL1o, hv] at HVA
  have HLN : Hid (L1.length = n) := hL1n
  have HV := hidden hv
  have HR0 : Hid (Rw (w1.alloc (.cells #[] 39)) w1.heap.size (.slice (some ⟨w1.heap.size, 0, none⟩) 0 0) []) := Rw.nil (Nat.le_refl _)
  have HBA : Hid (Below w1.heap.size w1 (w1.alloc (.cells #[] 39))) := (Below.refl _ _).alloc (Nat.le_refl _) _
  clear hO1 hL1o hb1 hL1n hv HLS
  go_wp2_with fail
  refine HVA.out.mono ?_
  clear HVA
  rintro e w2 ⟨rfl, hb2⟩
  have HB2 : Hid (Below w1.heap.size w1 w2) := HBA.out.trans (hb2.mono HBA.out.size)
  have HR2 := hidden (HR0.out.only hb2)
  clear hb2 HBA HR0
  have hno : layOk L base = false → PlacesE w (laidL L base) N (layOk L base) (.returned (.tuple #[.slice (some ⟨w1.heap.size, 0, none⟩) 0 0, .int .i64 0, .bool false])) w2 := fun hf => by
    have hN := HNN.out
    rw [laid_no hf] at hN ⊢
    rw [hf]
    have hN0 : N = 0 := by rw [← hN]; rfl
    subst hN0
    exact ⟨_, 0, rfl, [], rfl, rfl, HR2.out.lower HB1.out.size, HB1.out.trans (HB2.out.mono HB1.out.size)⟩
  have HNO := hidden hno
  clear hno
  rcases v with _ | _
  · have HF : Hid (layOk L base = false) := by show _ = _; unfold layOk; rw [HV.out]; rfl
    clear HV HR2 HB2
    go_wp2_with fail
    go_ret3
    exact HNO.out HF.out
  by_cases b0 : base < 0
  · have HF : Hid (layOk L base = false) := by show _ = _; unfold layOk; rw [HV.out, decide_eq_false (by omega)]; rfl
    clear HV HR2 HB2
    go_wp2_with fail
    refine (l1In_low _ _ _ (by omega) _).mono ?_
    rintro e w' ⟨rfl, rfl⟩
    go_wp2_with fail
    go_ret3
    exact HNO.out HF.out
  by_cases b1 : 4096 < base
  · have HF : Hid (layOk L base = false) := by show _ = _; unfold layOk; rw [HV.out, decide_eq_false (by omega)]; rfl
    clear HV HR2 HB2
    go_wp2_with fail
    refine (l1In_high _ _ _ (by omega) _).mono ?_
    rintro e w' ⟨rfl, rfl⟩
    go_wp2_with fail
    go_ret3
    exact HNO.out HF.out
  by_cases b8 : base % 8 = 0
  case neg =>
    have hb8 : (base % 8 != 0) = true := by simpa using b8
    have HF : Hid (layOk L base = false) := by show _ = _; unfold layOk; rw [HV.out, decide_eq_false (by omega)]; rfl
    clear HV HR2 HB2 b8
    go_wp2_with fail
    refine (l1In_yes _ _ _ (by omega) (by omega) _).mono ?_
    rintro e w' ⟨rfl, rfl⟩
    go_wp2_with fail
    go_ret3
    exact HNO.out HF.out
  have ht8 : (base.tmod 8 != 0) = false := by rw [Int.tmod_eq_emod_of_nonneg (by omega), b8]; rfl
  have HT : Hid (layOk L base = true) := by show _ = _; unfold layOk; rw [HV.out, decide_eq_true (by omega)]; rfl
  have hfine := fine_of HV.out (by omega : 0 ≤ base) (by omega : base ≤ 4096)
  change Fine (secsOf L) base at hfine
  obtain ⟨Ss, hSs⟩ : ∃ q, secsOf L = q := ⟨_, rfl⟩
  have HL1 : Hid (secsOf L1 = Ss) := (secsOf_same HLO.out).trans hSs
  have HRES : Hid (laidL L base = layK Ss base 3) := by show _ = _; rw [laid_yes HT.out, hSs]
  rw [hSs] at hfine
  have HFI := hidden hfine
  have HSN : Hid (Ss.length = n) := by show _ = _; rw [← HL1.out]; unfold secsOf; rw [List.length_map]; exact HLN.out
  have HZ : Hid (((zerosL Ss).take 0 : List (List Int)) = []) := by show _ = _; simp
  have HAT : Hid (∀ k : Nat, k < n → ∃ b off y, a1 = some ⟨b, off, none⟩ ∧ L1[k]? = some y ∧ Ss[k]? = some (y.l.map Sp.s) ∧ ∀ W, Below w1.heap.size w1 W → W.cell? ⟨b, off + k * 2, none⟩ = some (.slice y.a1 y.l.length y.c1) ∧ Sects W w1.heap.size y.a1 y.l) := fun k hk => by
    have hkl : k < L1.length := by rw [HLN.out]; exact hk
    obtain ⟨b, off, ha, hb, p0, _⟩ := HO1.out.at_ hkl
    have hy : L1[k]? = some L1[k] := List.getElem?_eq_getElem hkl
    refine ⟨b, off, L1[k], ha, hy, ?_, fun W hW => ⟨(hW.cell (by show b < _; exact hb)).trans p0, (HO1.out.below hW).secs _ (List.mem_of_getElem? hy)⟩⟩
    rw [← HL1.out]
    unfold secsOf
    rw [List.getElem?_map, hy]
    rfl
  clear hfine hSs HV HNO b8
  go_wp2_with fail
  refine (l1In_yes _ _ _ (by omega) (by omega) _).mono ?_
  clear b0 b1
  rintro e w' ⟨rfl, rfl⟩
  go_wp2_with fail
  clear ht8
  go_loopw [7, 8] (fun v i wr => ∃ (k : Nat) (rs : List Rn) (va : Option Addr) (vc : Nat), i = .int .i64 k ∧ v = .slice va k vc ∧ k ≤ n ∧ Hid (Rw wr w1.heap.size (.slice va k vc) rs) ∧ Hid (Below w1.heap.size w1 wr) ∧ Hid (rs.map Rn.r = (zerosL Ss).take k)) (fun _ i _ => n - (intOf i).toNat)
  case atStart => exact ⟨0, [], _, 0, rfl, rfl, Nat.zero_le _, HR2, HB2, (by show _ = _; rw [HZ.out]; rfl)⟩
  case round =>
    clear HR2 HB2
    obtain ⟨k, rs, va, vc, rfl, rfl, hk, hR, hb, hrs⟩ := hrel
    have hrk : Hid (rs.length = k) := by
      have := congrArg List.length hrs.out
      rw [List.length_map, List.length_take] at this
      unfold zerosL at this
      rw [List.length_map, HSN.out] at this
      show _ = _
      omega
    by_cases hlt : k < n
    · have hilt : (k : Int) < (n : Int) := by omega
      obtain ⟨b, off, y, rfl, hy, hss, hpp⟩ := HAT.out k hlt
      obtain ⟨p0, _⟩ := hpp wr hb.out
      obtain ⟨m, hm⟩ : ∃ q, y.l.length = q := ⟨_, rfl⟩
      rw [hm] at p0
      have hm8 : m ≤ 8 := by have := HFI.out.each _ (List.mem_of_getElem? hss); rw [List.length_map] at this; omega
      have hmk := fun W => run_make_row' (P := Try.prog) 39 3 (.int .i64 0) 8 Try.underlying39 Try.info_int rfl .i64 .i64 m (by omega) (by omega) W
      have HZK : Hid ((zerosL Ss).take (k + 1) = (zerosL Ss).take k ++ [List.replicate m 0]) := by
        show _ = _
        have : (zerosL Ss)[k]? = some (List.replicate m 0) := by unfold zerosL; rw [List.getElem?_map, hss]; simp [hm]
        rw [List.take_add_one, this]
        rfl
      have HX : Hid (Has ((wr.alloc (.cells (madeCells #[Value.int .i64 0] m) 3)).alloc (.cells #[.slice (some ⟨wr.heap.size, 0, none⟩) m m] 39)) wr.heap.size 3 (madeCells #[Value.int .i64 0] m)) := (Has.new _ _ _).alloc _
      have HR1 := hidden ((hR.out.alloc (.cells (madeCells #[Value.int .i64 0] m) 3)).alloc (.cells #[.slice (some ⟨wr.heap.size, 0, none⟩) m m] 39))
      have HB1W : Hid (Below w1.heap.size w1 ((wr.alloc (.cells (madeCells #[Value.int .i64 0] m) 3)).alloc (.cells #[.slice (some ⟨wr.heap.size, 0, none⟩) m m] 39))) := (hb.out.alloc hb.out.size _).alloc (by have := hb.out.size; simp; omega) _
      have HNEW : Hid (Has ((wr.alloc (.cells (madeCells #[Value.int .i64 0] m) 3)).alloc (.cells #[.slice (some ⟨wr.heap.size, 0, none⟩) m m] 39)) (wr.heap.size + 1) 39 #[.slice (some ⟨wr.heap.size, 0, none⟩) m m]) := by
        have := Has.new (wr.alloc (.cells (madeCells #[Value.int .i64 0] m) 3)) 39 #[.slice (some ⟨wr.heap.size, 0, none⟩) m m]
        show Has _ _ _ _
        simpa using this
      have HLOW := hidden hR.out.low
      have HGL : Hid (w1.heap.size ≤ wr.heap.size) := hb.out.size
      clear hlt hm hy hss hpp hR hb
      go_wp2_with (at_builtin; refine wpList_app_ll _ rfl _ _ rfl w1.heap.size _ k (rs.map Rn.val) rfl (by have := HR1.out.row; rwa [hrk.out] at this) (wr.heap.size + 1) 1 _ rfl HNEW.out rfl (by omega) HB1W.out.size ?_)
      intro va' vc' W10 hrow10 hg10 _
      have hval : (⟨wr.heap.size, List.replicate m 0⟩ : Rn).val = .slice (some ⟨wr.heap.size, 0, none⟩) m m := by unfold Rn.val; rw [List.length_replicate]
      have HR10 : Hid (Rw W10 w1.heap.size (.slice va' (k + 1) vc') (rs ++ [⟨wr.heap.size, List.replicate m 0⟩])) := HR1.out.app (x := ⟨wr.heap.size, List.replicate m 0⟩) (by unfold Rn.cells; dsimp only; rw [← rep_int]; exact HX.out) HGL.out (fun z hz => by have := HLOW.out z hz; show z.g ≠ wr.heap.size; omega) (by rw [hval, hrk.out]; exact hrow10) hg10
      have HB10 : Hid (Below w1.heap.size w1 W10) := HB1W.out.grown hg10 HB1W.out.size (fun q hq => (HR1.out.row.lt q hq).1)
      have HRS : Hid ((rs ++ [(⟨wr.heap.size, List.replicate m 0⟩ : Rn)]).map Rn.r = (zerosL Ss).take (k + 1)) := by
        show _ = _
        rw [HZK.out, List.map_append, hrs.out]
        rfl
      clear hrow10 hg10 hval HX HR1 HB1W HNEW HLOW HGL HZK hrk hrs hmk p0
      go_wp2_with fail
      go_roundw
      case rel => exact ⟨k + 1, _, va', vc', by go_num, rfl, by omega, HR10, HB10, HRS⟩
      case measure => simp [intOf]; omega
    · have hilt : ¬ (k : Int) < (n : Int) := by omega
      have hkn : k = n := by omega
      subst hkn
      have HPL : Hid (rs.map Rn.r = (layK Ss base 0).pl) := by
        show _ = _
        rw [hrs.out, List.take_of_length_le (by unfold zerosL; rw [List.length_map, HSN.out]; exact Nat.le_refl _)]
        rfl
      clear hlt hk hrs hrk HZ
      go_wp2_with fail
      go_loopw [9, 10] (fun av i wr => ∃ (m : Nat) (E : Int) (rs : List Rn), i = .int .i64 ((m : Int) + 1) ∧ av = .int .i64 E ∧ m ≤ 3 ∧ Hid (Rw wr w1.heap.size (.slice va k vc) rs) ∧ Hid (Below w1.heap.size w1 wr) ∧ Hid (rs.map Rn.r = (layK Ss base m).pl) ∧ Hid ((layK Ss base m).e = E)) (fun _ i _ => 4 - (intOf i).toNat)
      case atStart => exact ⟨0, base, rs, rfl, rfl, by omega, hR, hb, HPL, rfl⟩
      case round =>
        clear hR hb HPL
        obtain ⟨m, E, rs, rfl, rfl, hm, hR, hb, hpl, hE⟩ := hrel
        by_cases hm3 : m < 3
        · have hi : (m : Int) + 1 ≤ 3 := by omega
          obtain ⟨E1, hE1⟩ : ∃ q, upTo E 8 = q := ⟨_, rfl⟩
          have HA := hidden (fun W => alignUp'_any E 8 W)
          rw [hE1] at HA
          have HP0 : Hid (rs.map Rn.r = (stK Ss base m 0 0).pl) := hpl.out
          have HE0 : Hid ((stK Ss base m 0 0).e = E1) := by show upTo (layK Ss base m).e 8 = E1; rw [hE.out]; exact hE1
          have HB0 := hb
          have HR0 := hR
          have HM3 := hidden hm3
          clear hpl hE hE1 hb hR hm hm3
          go_wp2_with fail
          refine (HA.out _).mono ?_
          clear HA
          rintro e w' ⟨rfl, rfl⟩
          go_wp2_with fail
          go_loopw [9, 11] (fun av i wr => ∃ (p : Nat) (E : Int) (rs : List Rn), i = .int .i64 p ∧ av = .int .i64 E ∧ p ≤ k ∧ Hid (Rw wr w1.heap.size (.slice va k vc) rs) ∧ Hid (Below w1.heap.size w1 wr) ∧ Hid (rs.map Rn.r = (stK Ss base m p 0).pl) ∧ Hid ((stK Ss base m p 0).e = E)) (fun _ i _ => k - (intOf i).toNat)
          case atStart => exact ⟨0, E1, rs, rfl, rfl, Nat.zero_le _, HR0, HB0, HP0, HE0⟩
          case round =>
            clear HR0 HB0 HP0 HE0
            obtain ⟨p, E, rs, rfl, rfl, hp, hR, hb, hpl, hE⟩ := hrel
            by_cases hlt : p < k
            · have hilt : (p : Int) < (k : Int) := by omega
              obtain ⟨b, off, y, rfl, hy, hss, hpp⟩ := HAT.out p hlt
              obtain ⟨q, hq⟩ : ∃ q, y.l.length = q := ⟨_, rfl⟩
              rw [hq] at hpp
              have hq8 : q ≤ 8 := by have := HFI.out.each _ (List.mem_of_getElem? hss); rw [List.length_map] at this; omega
              have HPP := hidden hpp
              have HSS := hidden hss
              have HQ := hidden hq
              have HLT := hidden hlt
              have HYM := hidden (List.mem_of_getElem? hy)
              have HR0 := hR
              have HB0 := hb
              have HP0 := hpl
              have HE0 := hE
              clear hy hss hpp hq hR hb hpl hE hlt hp
              go_wp2_with fail
              go_loopw [9, 12] (fun av i wr => ∃ (j : Nat) (E : Int) (rs : List Rn), i = .int .i64 j ∧ av = .int .i64 E ∧ j ≤ q ∧ Hid (Rw wr w1.heap.size (.slice va k vc) rs) ∧ Hid (Below w1.heap.size w1 wr) ∧ Hid (rs.map Rn.r = (stK Ss base m p j).pl) ∧ Hid ((stK Ss base m p j).e = E)) (fun _ i _ => q - (intOf i).toNat)
              case atStart => exact ⟨0, E, rs, rfl, rfl, Nat.zero_le _, HR0, HB0, HP0, HE0⟩
              case round =>
                clear HR0 HB0 HP0 HE0
                obtain ⟨j, E, rs, rfl, rfl, hj, hR, hb, hpl, hE⟩ := hrel
                obtain ⟨p0, hsec⟩ := HPP.out wr hb.out
                by_cases hjl : j < q
                · have hij : (j : Int) < (q : Int) := by omega
                  have hjy : j < y.l.length := by rw [HQ.out]; exact hjl
                  obtain ⟨b2, off2, ha1, hb2, t0, t1, t2, t3, t4, t5⟩ := hsec.at_ hjy
                  obtain ⟨z, hz⟩ : ∃ z, y.l[j] = z := ⟨_, rfl⟩
                  rw [hz] at t0 t1 t2 t3 t4 t5
                  have hsj : (y.l.map Sp.s)[j]? = some z.s := by rw [List.getElem?_map, List.getElem?_eq_getElem hjy, hz]; rfl
                  have hzok := HFI.out.ok _ (List.mem_of_getElem? HSS.out) _ (List.mem_of_getElem? hsj)
                  have hzb := (HSH.out y HYM.out).1.2 z (by rw [← hz]; exact List.getElem_mem hjy)
                  have hlg : 0 ≤ z.s.long ∧ z.s.long ≤ 48 := hzok.2.1
                  have HSZ := hidden (fun W => sectionSize'_any W z.s z.a1 z.c1 z.a2 z.c2 (by have := hzb.2.1; omega))
                  have HNO : Hid (z.s.kind ≠ (m : Int) + 1 → stK Ss base m p (j + 1) = stK Ss base m p j) := fun hk => stK_no HSS.out hsj hk
                  have HYES : Hid (z.s.kind = (m : Int) + 1 → stK Ss base m p (j + 1) = ⟨put2 (stK Ss base m p j).pl p j (upTo (stK Ss base m p j).e z.s.align), upTo (stK Ss base m p j).e z.s.align + z.s.long⟩) := fun hk => stK_yes HSS.out hsj hk
                  obtain ⟨lg, hlg2⟩ : ∃ q, z.s.long = q := ⟨_, rfl⟩
                  rw [hlg2] at hlg HSZ HYES
                  have HRL : Hid (rs.map (fun x => x.r.length) = Ss.map List.length) := by
                    show _ = _
                    have := congrArg (List.map List.length) hpl.out
                    rw [List.map_map, stK_lens] at this
                    exact this
                  obtain ⟨⟨nm, kd, al, bs, sz, fs⟩, z1, d1, z2, d2⟩ := z
                  unfold Sx.agg at HSZ
                  dsimp only at t0 t1 t2 t3 t4 t5 HSZ HNO HYES
                  obtain ⟨nb, hnb⟩ : ∃ q, bs.length = q := ⟨_, rfl⟩
                  obtain ⟨nf, hnf⟩ : ∃ q, fs.length = q := ⟨_, rfl⟩
                  rw [hnb] at t3 HSZ
                  rw [hnf] at t5 HSZ
                  have HJL := hidden hjl
                  have HB2 := hidden hb2
                  rw [ha1] at p0
                  clear hjy hz hsj hzok hzb hlg2 hnb hnf hjl hb2 ha1 hsec
                  have HRa := hidden (hR.out.alloc (.cells #[.string nm, .int .i64 kd, .int .i64 al, .slice z1 nb d1, .int .i64 sz, .slice z2 nf d2] 42))
                  have HBa := hidden (hb.out.alloc hb.out.size (.cells #[.string nm, .int .i64 kd, .int .i64 al, .slice z1 nb d1, .int .i64 sz, .slice z2 nf d2] 42))
                  have HSa : Hid (Has (wr.alloc (.cells #[.string nm, .int .i64 kd, .int .i64 al, .slice z1 nb d1, .int .i64 sz, .slice z2 nf d2] 42)) wr.heap.size 42 #[.string nm, .int .i64 kd, .int .i64 al, .slice z1 nb d1, .int .i64 sz, .slice z2 nf d2]) := Has.new _ _ _
                  by_cases hk : kd = (m : Int) + 1
                  · have hkd : (kd != (m : Int) + 1) = false := by simp [hk]
                    obtain ⟨U, hU⟩ : ∃ q, upTo E al = q := ⟨_, rfl⟩
                    have hUb := upTo_bd E al
                    have HA := hidden (fun W => alignUp'_any E al W)
                    rw [hU] at HA hUb
                    have HY2 : Hid (stK Ss base m p (j + 1) = ⟨put2 (rs.map Rn.r) p j U, U + lg⟩) := by
                      show _ = _
                      rw [HYES.out hk, hE.out, hU, hpl.out]
                    have hpk : p < rs.length := by
                      have := congrArg List.length HRL.out
                      rw [List.length_map, List.length_map, HSN.out] at this
                      have := HLT.out
                      omega
                    obtain ⟨x, hx⟩ : ∃ x, rs[p]? = some x := ⟨_, List.getElem?_eq_getElem hpk⟩
                    have hxr : x.r.length = q := by
                      have : (rs.map (fun x => x.r.length))[p]? = (Ss.map List.length)[p]? := by rw [HRL.out]
                      rw [List.getElem?_map, List.getElem?_map, hx, HSS.out] at this
                      simp at this
                      rw [this]; exact HQ.out
                    obtain ⟨q0, hva, _, c0⟩ := HRa.out.at_ hx
                    subst hva
                    obtain ⟨v0, hv0⟩ : ∃ v, x.r[j]? = some v := ⟨_, List.getElem?_eq_getElem (by rw [hxr]; exact HJL.out)⟩
                    obtain ⟨c1', f1'⟩ := HRa.out.num hx hv0
                    rw [hxr] at c0
                    have hxg : x.g ≠ wr.heap.size := (HRa.out.vals x (List.mem_of_getElem? hx)).2.differ HSa.out (by decide)
                    have HS3 := hidden (HSa.out.away (p := ⟨x.g, j, none⟩) (Ne.symm hxg) (.int .i64 U))
                    have HR3 := hidden (HRa.out.set (j := j) (z := U) hx)
                    have HB3 := hidden (HBa.out.setCell (p := ⟨x.g, j, none⟩) (HRa.out.vals x (List.mem_of_getElem? hx)).1 (.int .i64 U))
                    have HP3 : Hid ((rs.set p ⟨x.g, x.r.set j U⟩).map Rn.r = (stK Ss base m p (j + 1)).pl) := by
                      show _ = _
                      rw [HY2.out]
                      exact rw_put hx
                    have HE3 : Hid ((stK Ss base m p (j + 1)).e = U + lg) := by show _ = _; rw [HY2.out]
                    obtain ⟨W3, hW3⟩ : ∃ q, (wr.alloc (.cells #[.string nm, .int .i64 kd, .int .i64 al, .slice z1 nb d1, .int .i64 sz, .slice z2 nf d2] 42)).setCell ⟨x.g, j, none⟩ (.int .i64 U) = q := ⟨_, rfl⟩
                    rw [hW3] at HS3 HR3 HB3
                    have s0 := HS3.out.cell 0
                    have s1 := HS3.out.cell 1
                    have s2 := HS3.out.cell 2
                    have s3 := HS3.out.cell 3
                    have s4 := HS3.out.cell 4
                    have s5 := HS3.out.cell 5
                    have HW3 := hidden hW3
                    have hij2 : (p : Int) < (k : Int) := by have := HLT.out; omega
                    have hw3 : IntKind.i64.wrap (U + lg) = U + lg := IntWalk.i64_in _ (by omega)
                    have hadd := hw3
                    clear hU hk hpk hx hxr hv0 hxg hW3 HYES HNO HRL HRa HBa HSa HY2 hR hb hpl hE
                    go_wp2_with fail
                    refine (HA.out _).mono ?_
                    clear HA
                    rintro e w' ⟨rfl, rfl⟩
                    go_upto_region 24 with fail
                    rw [HW3.out]
                    clear HW3 t0 t1 t2 t3 t4 t5 c0 c1' f1' p0
                    go_wp2_with fail
                    refine (HSZ.out _).mono ?_
                    clear HSZ
                    rintro e w5 ⟨rfl, hb5⟩
                    have HR5 := hidden (HR3.out.only hb5)
                    have HB5 := hidden (HB3.out.trans (hb5.mono HB3.out.size))
                    clear hb5 s0 s1 s2 s3 s4 s5 HS3
                    go_wp2_with fail
                    go_roundw
                    case rel => exact ⟨j + 1, U + lg, _, by go_num, rfl, HJL.out, HR5, HB5, HP3, HE3⟩
                    case measure => have := HJL.out; simp [intOf]; omega
                  · have hkd : (kd != (m : Int) + 1) = true := by simp [hk]
                    have HP3 : Hid (rs.map Rn.r = (stK Ss base m p (j + 1)).pl) := by show _ = _; rw [HNO.out hk]; exact hpl.out
                    have HE3 : Hid ((stK Ss base m p (j + 1)).e = E) := by show _ = _; rw [HNO.out hk]; exact hE.out
                    clear hk HYES HNO HRL HSa HSZ hR hb hpl hE
                    go_wp2_with fail
                    go_roundw
                    case rel => exact ⟨j + 1, E, rs, by go_num, rfl, HJL.out, HRa, HBa, HP3, HE3⟩
                    case measure => have := HJL.out; simp [intOf]; omega
                · have hij : ¬ (j : Int) < (q : Int) := by omega
                  have HRO : Hid (stK Ss base m p j = stK Ss base m (p + 1) 0) := stK_row HSS.out (by rw [List.length_map, HQ.out]; omega)
                  have HP3 : Hid (rs.map Rn.r = (stK Ss base m (p + 1) 0).pl) := by show _ = _; rw [← HRO.out]; exact hpl.out
                  have HE3 : Hid ((stK Ss base m (p + 1) 0).e = E) := by show _ = _; rw [← HRO.out]; exact hE.out
                  clear HRO hjl hj hpl hE hsec
                  go_wp2_with fail
                  go_roundw
                  case rel => exact ⟨p + 1, E, rs, by go_num, rfl, HLT.out, hR, hb, HP3, HE3⟩
                  case measure => have := HLT.out; simp [intOf]; omega
            · have hilt : ¬ (p : Int) < (k : Int) := by omega
              have HEN : Hid (stK Ss base m p 0 = layK Ss base (m + 1)) := stK_end (by rw [HSN.out]; omega) (by rw [HSN.out]; exact hp)
              have HP3 : Hid (rs.map Rn.r = (layK Ss base (m + 1)).pl) := by show _ = _; rw [← HEN.out]; exact hpl.out
              have HE3 : Hid ((layK Ss base (m + 1)).e = E) := by show _ = _; rw [← HEN.out]; exact hE.out
              clear HEN hlt hp hpl hE
              go_wp2_with fail
              go_roundw
              case rel => exact ⟨m + 1, E, rs, by go_num, rfl, HM3.out, hR, hb, HP3, HE3⟩
              case measure => have := HM3.out; simp [intOf]; omega
        · have hi : ¬ (m : Int) + 1 ≤ 3 := by omega
          have hm4 : m = 3 := by omega
          have HFIN : Hid (PlacesE w (laidL L base) N (layOk L base) (.returned (.tuple #[.slice va k vc, .int .i64 E, .bool true])) wr) := by
            have hN := HNN.out
            have hr := HRES.out
            rw [hr] at hN
            show PlacesE _ _ _ _ _ _
            rw [hr, HT.out]
            have hkN : k = N := by
              rw [← hN, ← hm4, ← hpl.out, List.length_map]
              have := congrArg List.length hpl.out
              have h2 := congrArg List.length (layK_lens Ss base m)
              rw [List.length_map] at this
              rw [List.length_map, List.length_map, HSN.out] at h2
              omega
            subst hm4
            refine ⟨va, vc, by rw [hkN, hE.out], rs, hpl.out, hN.symm, ?_, HB1.out.trans (hb.out.mono HB1.out.size)⟩
            have := hR.out.lower HB1.out.size
            rwa [hkN] at this
          clear hm hm3 hm4 hR hb hpl hE
          go_wp2_with fail
          go_ret3
          exact HFIN.out

end Go.Proofs.Ytiocchmlmcoieaa

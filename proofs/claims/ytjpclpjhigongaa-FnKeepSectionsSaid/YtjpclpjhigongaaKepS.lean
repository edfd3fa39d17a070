/-
  spec.KeepSections.
-/
import Derived.Test.YtjpclpjhigongaaKepJ
import Derived.Test.YtjpclpjhigongaaStpT
import Derived.BigQuiet
import Derived.Deep.QuietTactic
namespace Go.Proofs.Ytjpclpjhigongaa
open Go.RowKit

theorem marksQ_snoc (n : Nat) (Q : List Int) (x : Int) : marksQ n (Q ++ [x]) = mark (marksQ n Q) x := by
  apply List.ext_getElem?
  intro i
  rcases Nat.lt_or_ge i n with h | h
  · rw [marksQ_at h]
    unfold mark
    split
    · rename_i h0
      rw [List.getElem?_set, marksQ_length]
      split
      · rename_i e
        rw [if_pos (by omega), decide_eq_true (by rw [List.mem_append, List.mem_singleton]; exact .inr (by omega))]
      · rename_i e
        rw [marksQ_at h]
        congr 1
        rw [decide_eq_decide, List.mem_append, List.mem_singleton]
        exact ⟨fun g => g.elim id fun g => absurd g (by omega), .inl⟩
    · rename_i h0
      rw [marksQ_at h]
      congr 1
      rw [decide_eq_decide, List.mem_append, List.mem_singleton]
      exact ⟨fun g => g.elim id fun g => absurd g (by omega), .inl⟩
  · rw [List.getElem?_eq_none (by rw [marksQ_length]; exact h), List.getElem?_eq_none (by rw [mark_length, marksQ_length]; exact h)]
theorem mark_out {s : List Bool} {x : Int} (h : s.length ≤ x.toNat) : mark s x = s := by
  unfold mark
  split
  · exact List.set_eq_of_length_le h
  · rfl
theorem drop_nextS {α : Type} {l : List α} {k : Nat} {x : α} (h : l[k]? = some x) : l.drop k = x :: l.drop (k + 1) := by
  have hk := (List.getElem?_eq_some_iff.1 h).1
  rw [List.drop_eq_getElem_cons hk]
  rw [List.getElem?_eq_getElem hk] at h
  injection h with h
  rw [h]
theorem loose_step {sb : List Bool} {bs : List Bool} {ss : List Sx} {k : Nat} {b : Bool} {s : Sx} (hb : bs[k]? = some b) (hs : ss[k]? = some s) : looseS sb (bs.drop k) (ss.drop k) = ((b && s.fixs.any fun f => !sb.getD f.to.toNat false) || looseS sb (bs.drop (k + 1)) (ss.drop (k + 1))) := by
  rw [drop_nextS hb, drop_nextS hs]
  conv => lhs; unfold looseS
/-- The part that is kept so far, and the row of numbers. -/
structure PtT (w W : World) (vs vm : Value) (L : List Sp) (tv : Value) (k : Nat) (ts : List Int) : Prop where
  pt : PtS w W vs vm L
  row : W.ownsRow w.heap.size 3 1 tv k (ts.map (Value.int .i64))
theorem PtT.only {w W W' : World} {vs vm tv : Value} {L : List Sp} {k : Nat} {ts : List Int} (h : PtT w W vs vm L tv k ts) (hb : Below W.heap.size W W') : PtT w W' vs vm L tv k ts :=
  ⟨h.pt.only hb, h.row.kept (grown_only hb) (Classical.em _)⟩
theorem PtT.alloc {w W : World} {vs vm tv : Value} {L : List Sp} {k : Nat} {ts : List Int} (h : PtT w W vs vm L tv k ts) (o : Obj) : PtT w (W.alloc o) vs vm L tv k ts := h.only ((Below.refl _ _).alloc (Nat.le_refl _) o)
/-- A number is put behind the others. -/
theorem PtT.app {w W W' : World} {vs vm tv tv' : Value} {L : List Sp} {k k' : Nat} {ts ts' : List Int} (h : PtT w W vs vm L tv k ts) (hg : W.grownBy W' tv.ownBlock) (hr : W'.ownsRow w.heap.size 3 1 tv' k' (ts'.map (Value.int .i64))) : PtT w W' vs vm L tv' k' ts' :=
  ⟨⟨h.pt.below.grown hg h.pt.below.size (fun q hq => (h.row.lt q hq).1), h.pt.obj.grown hg (h.pt.obj.other h.row (by decide)), h.pt.row.kept hg (rows_apart h.pt.row h.row (by decide))⟩, hr⟩
/-- Around a section that is put behind the others, beside the row of numbers. -/
structure JPT (w : World) (vs vm : Value) (L : List Sp) (y : Sp) (q : Nat) (tv : Value) (kk : Nat) (ts : List Int) (k : Nat) (W : World) (vals : Nat → Value) : Prop where
  jp : JP w vs vm L y q k W vals
  row : W.ownsRow w.heap.size 3 1 tv kk (ts.map (Value.int .i64))
/-- Around a symbol's new place, beside the row of numbers. -/
def JLT (w13 w9 : World) (qb : Nat) (vs vm : Value) (LL : List Sp) (ms : List Sm) (tv : Value) (kk : Nat) (ts : List Value) : Nat → World → (Nat → Value) → Prop
  | 0, W, _ => ∃ z, W = w13.drewN z
  | _, W, _ => Hid (Ob W qb w9.heap.size vs vm LL ms) ∧ Hid (Below w9.heap.size w9 W) ∧ Hid (W.ownsRow w9.heap.size 3 1 tv kk ts)
theorem JLT.at0 {w13 w9 : World} {qb : Nat} {vs vm : Value} {LL : List Sp} {ms : List Sm} {tv : Value} {kk : Nat} {ts : List Value} {k : Nat} {W : World} {vals : Nat → Value} (h : JLT w13 w9 qb vs vm LL ms tv kk ts k W vals) (hk : k = 0) : ∃ z, W = w13.drewN z := by
  subst hk; exact h
theorem keptSp_sub : ∀ (bs : List Bool) (l : List Sp), (keptSp bs l).Sublist l
  | [], l => by simp [keptSp]
  | _ :: _, [] => by simp [keptSp]
  | b :: bs, m :: l => by
    unfold keptSp
    split
    · exact (keptSp_sub bs l).cons_cons m
    · exact (keptSp_sub bs l).cons m
theorem keptN_many {kp : List Bool} {l : List Sp} (h : kp.length = l.length) {k : Nat} : keptN kp (k : Int) = (((keptSp (kp.take k) (l.take k)).length : Nat) : Int) := by
  unfold keptN
  rw [keptSp_length _ _ (by rw [List.length_take, List.length_take, h]), Int.toNat_natCast]
theorem JPT.below {w : World} {vs vm : Value} {L : List Sp} {y : Sp} {q kk : Nat} {tv : Value} {ts : List Int} {k : Nat} {W : World} {vals : Nat → Value} (h : JPT w vs vm L y q tv kk ts k W vals) : Below w.heap.size w W := JP.below h.jp
theorem JPT.obj {w : World} {vs vm : Value} {L : List Sp} {y : Sp} {q kk : Nat} {tv : Value} {ts : List Int} {k : Nat} {W : World} {vals : Nat → Value} (h : JPT w vs vm L y q tv kk ts k W vals) (hk : k ≤ 1) : Has W w.heap.size 26 #[vs, vm] := JP.obj h.jp hk
theorem own_lower {W : World} {base lo : Nat} {T : TypeId} {size : Nat} {v : Value} {n : Nat} {xs : List Value} (h : W.ownsRow base T size v n xs) (hl : lo ≤ base) : W.ownsRow lo T size v n xs :=
  ⟨h.1, h.2.elim .inl fun ⟨k, cap, cur, e, hb, r⟩ => .inr ⟨k, cap, cur, e, Nat.le_trans hl hb, r⟩⟩
theorem SR.sub {W : World} {lo base : Nat} {v v' : Value} {l k : List Sp} (h : SR W lo v l) (hk : k.Sublist l) (hr : W.ownsRow base 64 6 v' k.length (flatS k)) (hl : lo ≤ base) : SR W lo v' k :=
  ⟨own_lower hr hl, fun y hy => h.wf y (hk.subset hy), fun y hy => h.own1 y (hk.subset hy), fun y hy => h.own2 y (hk.subset hy), h.apart.sublist hk⟩
/-- spec.l1In as a reader: outside, inside. -/
theorem l1In_q0 (n lo hi : Int) (h : n < lo ∨ hi < n) : ∀ W : World, Calls Try.prog 34 #[.int .i64 n, .int .i64 lo, .int .i64 hi] W fun e w' => e = .returned (.bool false) ∧ w' = W := by
  intro W
  rcases h with h | h
  · exact (l1In_low n lo hi h W).mono fun _ _ q => ⟨q.1, q.2.symm⟩
  · exact (l1In_high n lo hi h W).mono fun _ _ q => ⟨q.1, q.2.symm⟩
theorem l1In_q1 (n lo hi : Int) (h : lo ≤ n) (h' : n ≤ hi) : ∀ W : World, Calls Try.prog 34 #[.int .i64 n, .int .i64 lo, .int .i64 hi] W fun e w' => e = .returned (.bool true) ∧ w' = W := fun W =>
  (l1In_yes n lo hi h h' W).mono fun _ _ q => ⟨q.1, q.2.symm⟩
set_option maxRecDepth 100000 in
set_option maxHeartbeats 16000000 in
theorem keepSections'_any (w : World) (B : Nat) (a1 a2 : Option Addr) (c1 c2 n m : Nat) (l : List Sp) (ms : List Sm) (hn : n = l.length) (hm : m = ms.length) (h1 : Sects w B a1 l) (h2 : Syms w B a2 ms) (hB : B ≤ w.heap.size) (hlen : n ≤ 1048576) (hlem : m ≤ 1048576) (hl : ∀ y ∈ l, y.s.short) (hs : ∀ x ∈ ms, x.name.size ≤ maxLen)
    (Q : List Int) (ka : Option Addr) (nk kc : Nat) (hkv : Vals w B ka (Q.map (Value.int .i64))) (hkn : Q.length = nk) (hkm : nk ≤ 1048576) (A : List Sx × List Sm) (okb : Bool) (N M : Nat) (hA0 : keepR (marksQ n Q) (l.map Sp.s) ms = (A, okb)) (hN : A.1.length = N) (hM : A.2.length = M) :
    Calls Try.prog 7 #[.agg #[.slice a1 n c1, .slice a2 m c2], .slice ka nk kc] w (AnsB w A okb N M) := by
  have hA : Has ((w.alloc (.cells #[.slice a1 n c1, .slice a2 m c2] 26)).alloc (.cells #[.slice none 0 0, .slice none 0 0] 26)) w.heap.size 26 #[.slice a1 n c1, .slice a2 m c2] := (Has.new _ _ _).alloc _
  have hBa : Below w.heap.size w ((w.alloc (.cells #[.slice a1 n c1, .slice a2 m c2] 26)).alloc (.cells #[.slice none 0 0, .slice none 0 0] 26)) := ((Below.refl _ _).alloc (Nat.le_refl _) _).alloc (by simp) _
  have hR : Has ((w.alloc (.cells #[.slice a1 n c1, .slice a2 m c2] 26)).alloc (.cells #[.slice none 0 0, .slice none 0 0] 26)) (w.heap.size + 1) 26 #[.slice none 0 0, .slice none 0 0] := by
    have := Has.new (w.alloc (.cells #[.slice a1 n c1, .slice a2 m c2] 26)) 26 #[.slice none 0 0, .slice none 0 0]
    simpa using this
  obtain ⟨W2, hW2⟩ : ∃ q, ((w.alloc (.cells #[.slice a1 n c1, .slice a2 m c2] 26)).alloc (.cells #[.slice none 0 0, .slice none 0 0] 26)) = q := ⟨_, rfl⟩
  rw [hW2] at hA hBa hR
  have HW2 := hidden hW2
  have HN := hidden hn
  have HM := hidden hm
  have HS := hidden hs
  have HKV := hidden (hkv.more hB)
  have HKN := hidden hkn
  have HAA := hidden hA0
  have HNE := hidden hN
  have HME := hidden hM
  have HOW := hidden (l1OwnObject_any W2 w.heap.size a1 a2 c1 c2 n m l ms hn hm ((h1.more hB).below hBa) ((h2.more hB).below hBa) hBa.size hlen hlem hl)
  have HSH : Hid (∀ s ∈ l.map Sp.s, s.short) := fun s hs => by
    obtain ⟨y, hy, rfl⟩ := List.mem_map.1 hs
    exact hl y hy
  have x0 : W2.cell? ⟨w.heap.size, 0, none⟩ = some (.slice a1 n c1) := hA.cell 0
  have x1 : W2.cell? ⟨w.heap.size, 1, none⟩ = some (.slice a2 m c2) := hA.cell 1
  have HA := hidden hA
  have HR := hidden hR
  have HBA := hidden hBa
  clear h1 h2 hl hs hB hW2 hn hm hA hR hBa hkv hkn hA0 hN hM
  go_enter Try.func7, Try.ntmps7
  go_upto_region 1 with fail
  rw [HW2.out]
  clear HW2
  go_wp2_with fail
  refine HOW.out.mono ?_
  clear HOW x0 x1
  rintro e w3 ⟨L, b1, b2, d1, d2, rfl, hLs, hown, hb3⟩
  dsimp only at hLs hown
  have hLn : L.length = n := by have := congrArg List.length hLs; rw [List.length_map, List.length_map] at this; rw [this]; exact HN.out.symm
  have hMm : ms.length = m := HM.out.symm
  rw [hLn, hMm] at hown
  dsimp only
  rw [hLn, hMm]
  have hA3 := HA.out.below hb3 HA.out.lt
  have hR3 := HR.out.below hb3 HR.out.lt
  have z0 : w3.cell? ⟨w.heap.size, 0, none⟩ = some (.slice a1 n c1) := hA3.cell 0
  have z1 : w3.cell? ⟨w.heap.size, 1, none⟩ = some (.slice a2 m c2) := hA3.cell 1
  have f0 : w3.frozen? ⟨w.heap.size, 0, none⟩ = false := hA3.free 0
  have f1 : w3.frozen? ⟨w.heap.size, 1, none⟩ = false := hA3.free 1
  have hA4 : Has ((w3.setCell ⟨w.heap.size, 0, none⟩ (.slice b1 n d1)).setCell ⟨w.heap.size, 1, none⟩ (.slice b2 m d2)) w.heap.size 26 #[.slice b1 n d1, .slice b2 m d2] := (hA3.put 0 _).put 1 _
  have hg4 : w3.grownBy ((w3.setCell ⟨w.heap.size, 0, none⟩ (.slice b1 n d1)).setCell ⟨w.heap.size, 1, none⟩ (.slice b2 m d2)) (some w.heap.size) := only_trans (only_put' 0 _) (only_put' 1 _)
  have hR4 := hR3.grown hg4 (by intro e; injection e with e; omega)
  have hown4 := hown.under (by exact HA.out.lt) hg4
  have hb4 : Below w.heap.size w ((w3.setCell ⟨w.heap.size, 0, none⟩ (.slice b1 n d1)).setCell ⟨w.heap.size, 1, none⟩ (.slice b2 m d2)) := (HBA.out.trans (hb3.mono HBA.out.size)).grown hg4 (Nat.le_trans HBA.out.size hb3.size) (by intro q hq; injection hq with hq; omega)
  obtain ⟨W4, hW4⟩ : ∃ q, (w3.setCell ⟨w.heap.size, 0, none⟩ (.slice b1 n d1)).setCell ⟨w.heap.size, 1, none⟩ (.slice b2 m d2) = q := ⟨_, rfl⟩
  rw [hW4] at hA4 hR4 hown4 hb4
  have H1 := hidden hown4.sects
  have H2 := hidden hown4.syms'
  have HLL := hidden hLs
  have HLN := hidden hLn
  have HSL : Hid (∀ y ∈ L, y.s.short) := fun y hy => HSH.out y.s (by rw [← hLs]; exact List.mem_map_of_mem hy)
  have HOV := hidden (objectValid'_any W4 W4.heap.size b1 b2 d1 d2 n m L ms hLn.symm HM.out hown4.sects hown4.syms' (Nat.le_refl _) (by omega) (by omega) (fun y hy => by obtain ⟨g1, g2, g3⟩ := HSL.out y hy; exact ⟨by unfold maxLen; omega, by omega, by omega⟩) HS.out)
  obtain ⟨ok, hok⟩ : ∃ q, objOk (L.map Sp.s) ms = q := ⟨_, rfl⟩
  rw [hok] at HOV
  have HOK := hidden hok
  have y0 : W4.cell? ⟨w.heap.size, 0, none⟩ = some (.slice b1 n d1) := hA4.cell 0
  have y1 : W4.cell? ⟨w.heap.size, 1, none⟩ = some (.slice b2 m d2) := hA4.cell 1
  have HA4 := hidden hA4
  have HR4 := hidden hR4
  have HB4 := hidden hb4
  have HW4 := hidden hW4
  clear hown hb3 hMm hA3 hR3 hA4 hg4 hR4 hown4 hb4 hW4 hLs hLn hok HA HR HBA HS
  go_upto_region 2 with fail
  rw [HW4.out]
  clear z0 z1 f0 f1 HW4
  go_wp2_with fail
  refine HOV.out.mono ?_
  clear HOV y0 y1
  rintro e w5 ⟨rfl, hb5⟩
  have HB5 := hidden hb5
  have hr5 := HR4.out.below hb5 HR4.out.lt
  have r0 : w5.cell? ⟨w.heap.size + 1, 0, none⟩ = some (.slice none 0 0) := hr5.cell 0
  have r1 : w5.cell? ⟨w.heap.size + 1, 1, none⟩ = some (.slice none 0 0) := hr5.cell 1
  have u0 : w5.frozen? ⟨w.heap.size + 1, 0, none⟩ = false := hr5.free 0
  have u1 : w5.frozen? ⟨w.heap.size + 1, 1, none⟩ = false := hr5.free 1
  have HR5 := hidden hr5
  clear hb5 hr5
  cases ok with
  | false =>
    have HAN : Hid (A = ([], []) ∧ okb = false) := keepR_no HAA.out (.inl (by rw [← HLL.out]; exact HOK.out))
    have hb6 := HB4.out.trans (HB5.out.mono HB4.out.size)
    have HAB := hidden (ansB_none HR5.out hb6 HAN.out.1 HAN.out.2 HNE.out HME.out)
    clear hb6
    go_wp21
    refine bodyPost_ret (results_cell_rowT rfl _ _ (w.heap.size + 1) 26 #[.slice none 0 0, .slice none 0 0] (0, 0) _ rfl HAB.out.1 Try.underlying26 rfl (by kernel_rfl)) rfl ?_
    exact HAB.out.2
  | true =>
    have hpa := objOk_parts HOK.out
    have hm12 : m ≤ 12 := by rw [HM.out]; exact hpa.2.1
    have hn8 : n ≤ 8 := by rw [← HLN.out]; have := hpa.1; rwa [List.length_map] at this
    have HTO : Hid (∀ y ∈ L, y.s.fixs.length ≤ 6 ∧ ∀ f ∈ y.s.fixs, 0 ≤ f.to ∧ f.to < m) := fun y hy => by
      rw [HM.out]; exact (hpa.2.2 y.s (List.mem_map_of_mem hy)).2
    have HLI : Hid (∀ y ∈ ms, 0 ≤ y.loc → y.loc.toNat < n) := fun y hy h0 => by
      have := loc_in HOK.out hy h0
      rwa [List.length_map, HLN.out] at this
    have hA5 := HA4.out.below HB5.out HA4.out.lt
    have hb5 := HB4.out.trans (HB5.out.mono HB4.out.size)
    have hmk := fun W => run_make_row' (P := Try.prog) 68 4 (.bool false) 1 Try.underlying68 Try.info_bool rfl .i64 .i64 n (by omega) (by omega) W
    have hS6 : Has (w5.alloc (.cells (madeCells #[.bool false] n) 4)) w5.heap.size 4 (madeCells #[.bool false] n) := Has.new _ _ _
    have hb56 : Below w5.heap.size w5 (w5.alloc (.cells (madeCells #[.bool false] n) 4)) := (Below.refl _ _).alloc (Nat.le_refl _) _
    have y0 : w5.cell? ⟨w.heap.size, 0, none⟩ = some (.slice b1 n d1) := hA5.cell 0
    obtain ⟨W6, hW6⟩ : ∃ q, w5.alloc (.cells (madeCells #[.bool false] n) 4) = q := ⟨_, rfl⟩
    obtain ⟨sb, hsb⟩ : ∃ q, w5.heap.size = q := ⟨_, rfl⟩
    rw [hW6, hsb, cellsB_made] at hS6
    rw [hW6, hsb] at hb56
    have hw6 : sb ≤ W6.heap.size := Nat.le_of_lt hS6.lt
    have hrl : w.heap.size + 1 < sb := by rw [← hsb]; exact HR5.out.lt
    have HX : Hid (∀ W, Below sb W6 W → Below w.heap.size w W ∧ Has W w.heap.size 26 #[.slice b1 n d1, .slice b2 m d2] ∧ Has W (w.heap.size + 1) 26 #[.slice none 0 0, .slice none 0 0] ∧ Sects W sb b1 L ∧ Syms W sb b2 ms) := fun W hW => by
      have h5 : Below sb w5 W := hb56.trans hW
      have h45 : Below W4.heap.size W4 W := HB5.out.trans (h5.mono (by rw [← hsb]; exact HB5.out.size))
      exact ⟨HB4.out.trans (h45.mono HB4.out.size), HA4.out.below h45 HA4.out.lt, HR4.out.below h45 HR4.out.lt, (H1.out.below h45).more (by rw [← hsb]; exact HB5.out.size), (H2.out.below h45).more (by rw [← hsb]; exact HB5.out.size)⟩
    have HS6 := hidden hS6
    have HW6 := hidden hW6
    have HSB := hidden hsb
    have HLOW : Hid (∀ W, W6.grownBy W (some sb) → Below sb W6 W) := fun W h => Below.only h hw6 (Nat.le_refl _)
    clear hpa hA5 hb5 hS6 hb56 hW6 hsb HA4 HR4 HB4 HB5 HR5 H1 H2 r0 r1 u0 u1
    go_upto_region 5 with fail
    rw [HW6.out, HSB.out]
    clear HW6 HSB hmk y0
    go_wp2_with fail
    go_loopw [7] (fun i wr => ∃ (k : Nat) (s : List Bool), i = .int .i64 k ∧ k ≤ nk ∧ Hid (marksQ n (Q.take k) = s) ∧ Hid (Has wr sb 4 (cellsB s)) ∧ Hid (W6.grownBy wr (some sb))) (fun i _ => nk - (intOf i).toNat)
    case atStart => exact ⟨0, _, rfl, Nat.zero_le _, (by show _ = _; rw [List.take_zero]; exact marksQ_none n), HS6, hidden (World.grownBy.refl W6 _)⟩
    case round =>
      obtain ⟨k, s, rfl, hk, hst, hhs, hgr⟩ := hrel
      clear HS6
      obtain ⟨hxw, hxa, hxr, hxs, hxm⟩ := HX.out wr (HLOW.out wr hgr.out)
      have x0 : wr.cell? ⟨w.heap.size, 0, none⟩ = some (.slice b1 n d1) := hxa.cell 0
      by_cases hlt : k < nk
      · have hilt : (k : Int) < (nk : Int) := by omega
        obtain ⟨x, hx⟩ : ∃ x, Q[k]? = some x := ⟨_, List.getElem?_eq_getElem (by rw [HKN.out]; exact hlt)⟩
        obtain ⟨kb, ko, rfl, _, hkc⟩ := (HKV.out.below hxw) (by rw [List.length_map, HKN.out]; omega)
        have hkx := hkc k _ (by rw [List.getElem?_map, hx]; rfl)
        have HNX : Hid (marksQ n (Q.take (k + 1)) = mark s x) := by show _ = _; rw [take_next hx, marksQ_snoc, hst.out]
        have hsl : s.length = n := by rw [← hst.out, marksQ_length]
        have HG : Hid (∀ q, W6.grownBy (wr.drewN q) (some sb)) := fun q => only_drewN hgr.out q
        have HH : Hid (∀ q, Has (wr.drewN q) sb 4 (cellsB s)) := fun q => hhs.out.drewN q
        have e0 : ∀ q, (wr.drewN q).cell? ⟨w.heap.size, 0, none⟩ = some (.slice b1 n d1) := fun _ => x0
        have e1 : ∀ q, (wr.drewN q).cell? ⟨kb, ko + k, none⟩ = some (.int .i64 x) := fun _ => hkx
        clear hkc hx hst hxw hxa hxr hxs hxm
        by_cases hxn : x < 0
        · have HL := hidden (l1In_q0 x 0 ((n : Int) - 1) (by omega))
          have HS1 : Hid (marksQ n (Q.take (k + 1)) = s) := by show _ = _; rw [HNX.out, mark_neg (by omega)]
          clear HNX hsl hxn hhs hgr
          go_wp2_with fail
          go_quiet ((go_at_call 34; exact Calls.quiet_of_same (HL.out _)))
          go_wp2_with fail
          go_roundw
          case rel => exact ⟨k + 1, s, by go_num, by omega, HS1, HH.out _, HG.out _⟩
          case measure => simp [intOf]; omega
        · by_cases hxh : (n : Int) - 1 < x
          · have HL := hidden (l1In_q0 x 0 ((n : Int) - 1) (by omega))
            have HS1 : Hid (marksQ n (Q.take (k + 1)) = s) := by show _ = _; rw [HNX.out, mark_out (by omega)]
            clear HNX hsl hxn hxh hhs hgr
            go_wp2_with fail
            go_quiet ((go_at_call 34; exact Calls.quiet_of_same (HL.out _)))
            go_wp2_with fail
            go_roundw
            case rel => exact ⟨k + 1, s, by go_num, by omega, HS1, HH.out _, HG.out _⟩
            case measure => simp [intOf]; omega
          · have HL := hidden (l1In_q1 x 0 ((n : Int) - 1) (by omega) (by omega))
            obtain ⟨p, hp⟩ := Int.eq_ofNat_of_zero_le (show 0 ≤ x by omega)
            have hpn : p < n := by omega
            have hpi : (p : Int) < (n : Int) := by omega
            obtain ⟨bv, hbv⟩ : ∃ q, s[p]? = some q := ⟨_, List.getElem?_eq_getElem (by rw [hsl]; exact hpn)⟩
            have e5 : ∀ q, (wr.drewN q).cell? ⟨sb, p, none⟩ = some (.bool bv) := fun q => ((HH.out q).cell p).trans (cellsB_at hbv)
            have e6 : ∀ q, (wr.drewN q).frozen? ⟨sb, p, none⟩ = false := fun q => (HH.out q).free p
            have HH2 : Hid (∀ q, Has ((wr.drewN q).setCell ⟨sb, p, none⟩ (.bool true)) sb 4 (cellsB (mark s (p : Int)))) := fun q => (HH.out q).mark p
            have HG2 : Hid (∀ q, W6.grownBy ((wr.drewN q).setCell ⟨sb, p, none⟩ (.bool true)) (some sb)) := fun q => only_trans (HG.out q) (only_put' p _)
            subst hp
            clear hsl hxn hxh hhs hgr hbv hpn HH HG
            go_wp2_with fail
            go_quiet ((go_at_call 34; exact Calls.quiet_of_same (HL.out _)))
            go_wp2_with fail
            go_roundw
            case rel => exact ⟨k + 1, _, by go_num, by omega, HNX, HH2.out _, HG2.out _⟩
            case measure => simp [intOf]; omega
      · have hilt : ¬ (k : Int) < (nk : Int) := by omega
        obtain ⟨kp, hkp⟩ : ∃ q, marksQ n Q = q := ⟨_, rfl⟩
        have hsk : s = kp := by
          rw [← hst.out, List.take_of_length_le (by rw [HKN.out]; omega), hkp]
        subst hsk
        have hkl : s.length = n := by rw [← hkp, marksQ_length]
        rw [hkp] at HAA
        obtain ⟨w7, rfl⟩ : ∃ q, q = wr := ⟨_, rfl⟩
        have hb78 : Below w7.heap.size w7 (w7.alloc (.cells #[] 4)) := (Below.refl _ _).alloc (Nat.le_refl _) _
        have hE8 : (w7.alloc (.cells #[] 4)).ownsRow w7.heap.size 4 1 (.slice (some ⟨w7.heap.size, 0, none⟩) 0 0) 0 [] := empty_row w7 w7.heap.size 4 1 (Nat.le_refl _)
        -- what stays of the time before the symbols are looked at
        have HX7 : Hid (∀ W, Below w7.heap.size w7 W → Below w.heap.size w W ∧ Has W w.heap.size 26 #[.slice b1 n d1, .slice b2 m d2] ∧ Has W (w.heap.size + 1) 26 #[.slice none 0 0, .slice none 0 0] ∧ Sects W sb b1 L ∧ Syms W sb b2 ms ∧ Has W sb 4 (cellsB s)) := fun W hW => by
          have h6 := HLOW.out w7 hgr.out
          obtain ⟨g1, g2, g3, g4, g5⟩ := HX.out W (h6.trans (hW.mono (Nat.le_of_lt hhs.out.lt)))
          exact ⟨g1, g2, g3, g4, g5, hhs.out.below hW hhs.out.lt⟩
        have HSL7 : Hid (sb < w7.heap.size) := hhs.out.lt
        have HKL := hidden hkl
        have HROW0 : Hid ((w7.alloc (.cells #[] 4)).ownsRow w7.heap.size 4 1 (.slice (some ⟨w7.heap.size, 0, none⟩) 0 0) 0 (((ms.map (inKept s)).take 0).map Value.bool)) := hE8
        have HB8 := hidden hb78
        clear hlt hk hst hkp hkl hgr hhs hxw hxa hxr hxs hxm HX HLOW HKV HKN hb78 hE8 x0
        go_wp2_with fail
        clear hilt
        go_loopw [8, 9] (fun tv i wr => ∃ (k : Nat) (ta : Option Addr) (tc : Nat), i = .int .i64 k ∧ tv = .slice ta k tc ∧ k ≤ m ∧ Hid (Below w7.heap.size w7 wr) ∧ Hid (wr.ownsRow w7.heap.size 4 1 (.slice ta k tc) k (((ms.map (inKept s)).take k).map Value.bool))) (fun _ i _ => m - (intOf i).toNat)
        case atStart => exact ⟨0, _, 0, rfl, rfl, Nat.zero_le _, HB8, HROW0⟩
        case round =>
          obtain ⟨k, ta, tc, rfl, rfl, hk, hb, hrow⟩ := hrel
          clear HB8 HROW0
          obtain ⟨_, hxa, _, _, hxm, hxb⟩ := HX7.out wr hb.out
          have x1 : wr.cell? ⟨w.heap.size, 1, none⟩ = some (.slice b2 m d2) := hxa.cell 1
          by_cases hlt : k < m
          · have hilt : (k : Int) < (m : Int) := by omega
            have hkl : k < ms.length := by rw [← HM.out]; exact hlt
            obtain ⟨bb, off, rfl, _, p0, p1, p2, p3⟩ := hxm.at_ hkl
            obtain ⟨y, hy⟩ : ∃ y, ms[k] = y := ⟨_, rfl⟩
            rw [hy] at p2
            have hy2 : ms[k]? = some y := by rw [List.getElem?_eq_getElem hkl, hy]
            have hlo := HLI.out y (List.mem_of_getElem? hy2)
            obtain ⟨v, hv⟩ : ∃ q, inKept s y = q := ⟨_, rfl⟩
            obtain ⟨xs, hxs⟩ : ∃ q, ((ms.map (inKept s)).take k).map Value.bool = q := ⟨_, rfl⟩
            have HST : Hid (((ms.map (inKept s)).take (k + 1)).map Value.bool = xs ++ [.bool v]) := by
              show _ = _
              rw [take_next (show (ms.map (inKept s))[k]? = some v by rw [List.getElem?_map, hy2, ← hv]; rfl), List.map_append, hxs]; rfl
            rw [hxs] at hrow
            clear hxs
            have hba : Below wr.heap.size wr (wr.alloc (.cells #[.bool v] 4)) := (Below.refl _ _).alloc (Nat.le_refl _) _
            have K1 := hidden (hrow.out.kept (grown_only hba) (Classical.em _))
            have K2 : Hid (Has (wr.alloc (.cells #[.bool v] 4)) wr.heap.size 4 #[.bool v]) := Has.new _ _ _
            have K3 : Hid (w7.heap.size ≤ (wr.alloc (.cells #[.bool v] 4)).heap.size) := Nat.le_trans hb.out.size hba.size
            have K4 := hidden (hb.out.trans (hba.mono hb.out.size))
            obtain ⟨lo, hloe⟩ : ∃ q, y.loc = q := ⟨_, rfl⟩
            rw [hloe] at p2 hlo
            have hvv := hv
            unfold inKept at hvv
            rw [hloe] at hvv
            clear hkl hy hy2 hloe hba hrow hb p0 p1 p3 hv
            by_cases hl0 : lo < 0
            · have hv1 : v = true := by rw [← hvv, decide_eq_true hl0]; rfl
              subst hv1
              clear hvv hlo hlt
              go_wp2_with (at_builtin; refine wpList_app_bool _ rfl _ _ rfl w7.heap.size _ k _ rfl K1.out wr.heap.size 1 true rfl K2.out (by omega) K3.out ?_)
              intro ta' tc' W8 hrow8 hg8
              have HROW8 : Hid (W8.ownsRow w7.heap.size 4 1 (.slice ta' (k + 1) tc') (k + 1) (((ms.map (inKept s)).take (k + 1)).map Value.bool)) := by
                show World.ownsRow _ _ _ _ _ _ _
                rw [HST.out]; exact hrow8
              have HB8 : Hid (Below w7.heap.size w7 W8) := K4.out.grown hg8 K3.out (fun q hq => (K1.out.lt q hq).1)
              clear hrow8 hg8 K1 K2 K3 K4 HST hxa hxm hxb x1 p2
              go_wp2_with fail
              go_roundw
              case rel => exact ⟨k + 1, ta', tc', by go_num, rfl, by omega, HB8, HROW8⟩
              case measure => simp [intOf]; omega
            · obtain ⟨p, hp⟩ := Int.eq_ofNat_of_zero_le (show 0 ≤ lo by omega)
              have hpn : p < n := by have := hlo (by omega); omega
              have hpi : (p : Int) < (n : Int) := by omega
              obtain ⟨bv, hbv⟩ : ∃ q, s[p]? = some q := ⟨_, List.getElem?_eq_getElem (by rw [HKL.out]; exact hpn)⟩
              have e5 : wr.cell? ⟨sb, p, none⟩ = some (.bool bv) := (hxb.cell p).trans (cellsB_at hbv)
              subst hp
              have hv1 : v = bv := by
                rw [← hvv, decide_eq_false hl0, Int.toNat_natCast, List.getD_eq_getElem?_getD, hbv]; rfl
              subst hv1
              clear hvv hlo hbv hpn hlt
              go_wp2_with (at_builtin; refine wpList_app_bool _ rfl _ _ rfl w7.heap.size _ k _ rfl K1.out wr.heap.size 1 v rfl K2.out (by omega) K3.out ?_)
              intro ta' tc' W8 hrow8 hg8
              have HROW8 : Hid (W8.ownsRow w7.heap.size 4 1 (.slice ta' (k + 1) tc') (k + 1) (((ms.map (inKept s)).take (k + 1)).map Value.bool)) := by
                show World.ownsRow _ _ _ _ _ _ _
                rw [HST.out]; exact hrow8
              have HB8 : Hid (Below w7.heap.size w7 W8) := K4.out.grown hg8 K3.out (fun q hq => (K1.out.lt q hq).1)
              clear hrow8 hg8 K1 K2 K3 K4 HST hxa hxm hxb x1 p2 e5
              go_wp2_with fail
              go_roundw
              case rel => exact ⟨k + 1, ta', tc', by go_num, rfl, by omega, HB8, HROW8⟩
              case measure => simp [intOf]; omega
          · have hilt : ¬ (k : Int) < (m : Int) := by omega
            have hkm' : k = m := by omega
            subst hkm'
            obtain ⟨w9, rfl⟩ : ∃ q, q = wr := ⟨_, rfl⟩
            obtain ⟨hxw, -, hxr, hxs, -, -⟩ := HX7.out w9 hb.out
            have hsw := hrow.out
            rw [List.take_of_length_le (by rw [List.length_map, ← HM.out]; exact Nat.le_refl _)] at hsw
            obtain ⟨SV, hSV⟩ : ∃ q, ms.map (inKept s) = q := ⟨_, rfl⟩
            rw [hSV] at hsw
            have hSVn : SV.length = k := by rw [← hSV, List.length_map]; exact HM.out.symm
            have hvals : Vals w9 w9.heap.size ta (SV.map Value.bool) := by
              have hsw' : w9.ownsRow w7.heap.size 4 1 (.slice ta (SV.map Value.bool).length tc) (SV.map Value.bool).length (SV.map Value.bool) := by rw [List.length_map, hSVn]; exact hsw
              obtain ⟨a', c', e', _, hv⟩ := vals_of_own hsw'
              injection e' with e1
              rw [e1]; exact hv
            have HVS := hidden hvals
            have HSVE := hidden hSV
            have HSVN := hidden hSVn
            have HXR := hidden hxr
            have HXS := hidden hxs
            have HXB := hidden hxb
            have HXW := hidden hxw
            have HB79 := hidden hb.out
            have x0 : w9.cell? ⟨w.heap.size, 0, none⟩ = some (.slice b1 n d1) := hxa.cell 0
            have HLO0 : Hid (looseS SV s (L.map Sp.s) = looseS SV (s.drop 0) ((L.map Sp.s).drop 0)) := by show _ = _; rw [List.drop_zero, List.drop_zero]
            clear hb hrow hxw hxr hxs hxa hxm hxb hsw hSV hSVn hvals hlt hk
            go_wp2_with fail
            clear hilt x1
            go_loopw [10] (fun i wr => ∃ p : Nat, i = .int .i64 p ∧ p ≤ n ∧ wr = w9 ∧ Hid (looseS SV s (L.map Sp.s) = looseS SV (s.drop p) ((L.map Sp.s).drop p))) (fun i _ => n - (intOf i).toNat)
            case atStart => exact ⟨0, rfl, Nat.zero_le _, rfl, HLO0⟩
            case round =>
              obtain ⟨p, rfl, hp, rfl, hU⟩ := hrel
              clear HLO0
              by_cases hlt : p < n
              · have hilt : (p : Int) < (n : Int) := by omega
                have hpl : p < L.length := by rw [HLN.out]; exact hlt
                obtain ⟨g, off, rfl, -, -, -, -, -, -, p5⟩ := HXS.out.at_ hpl
                obtain ⟨y, hy⟩ : ∃ y, L[p] = y := ⟨_, rfl⟩
                rw [hy] at p5
                have hy2 : L[p]? = some y := by rw [List.getElem?_eq_getElem hpl, hy]
                have hym := List.mem_of_getElem? hy2
                have HFX := hidden (HXS.out.fixs y hym)
                obtain ⟨hf6, hfto⟩ := HTO.out y hym
                have HFTO := hidden hfto
                obtain ⟨b, hb⟩ : ∃ b, s[p]? = some b := ⟨_, List.getElem?_eq_getElem (by rw [HKL.out]; exact hlt)⟩
                have e1 : wr.cell? ⟨sb, p, none⟩ = some (.bool b) := (HXB.out.cell p).trans (cellsB_at hb)
                have HST : Hid (looseS SV s (L.map Sp.s) = ((b && y.s.fixs.any fun f => !SV.getD f.to.toNat false) || looseS SV (s.drop (p + 1)) ((L.map Sp.s).drop (p + 1)))) := by
                  show _ = _
                  rw [hU.out]; exact loose_step hb (by rw [List.getElem?_map, hy2]; rfl)
                have hfx2 := HFX.out
                have hst2 := HST.out
                have hft2 := HFTO.out
                obtain ⟨⟨nm, kd, al, bs, sz, fs⟩, ya1, yc1, ya2, yc2⟩ := y
                dsimp only at p5 hf6 hfx2 hst2 hft2
                clear HFX HST HFTO hfto
                have HFX := hidden hfx2
                have HFTO := hidden hft2
                obtain ⟨nf, hnf⟩ : ∃ q, fs.length = q := ⟨_, rfl⟩
                rw [hnf] at p5 hf6
                have HNF := hidden hnf.symm
                have HST : Hid (looseS SV s (L.map Sp.s) = ((b && (fs.drop 0).any fun f => !SV.getD f.to.toNat false) || looseS SV (s.drop (p + 1)) ((L.map Sp.s).drop (p + 1)))) := by rw [List.drop_zero]; exact hst2
                clear hpl hy hy2 hym hnf hU hfx2 hst2 hft2 hb
                go_wp2_with fail
                go_loopw [11] (fun i ws => ∃ j : Nat, i = .int .i64 j ∧ j ≤ nf ∧ ws = wr ∧ Hid (looseS SV s (L.map Sp.s) = ((b && (fs.drop j).any fun f => !SV.getD f.to.toNat false) || looseS SV (s.drop (p + 1)) ((L.map Sp.s).drop (p + 1))))) (fun i _ => nf - (intOf i).toNat)
                case atStart => exact ⟨0, rfl, Nat.zero_le _, rfl, HST⟩
                case round =>
                  obtain ⟨j, rfl, hj, rfl, hF⟩ := hrel
                  clear HST
                  by_cases hltj : j < nf
                  · have hiltj : (j : Int) < (nf : Int) := by omega
                    cases b with
                    | true =>
                      have hjl : j < fs.length := by rw [← HNF.out]; exact hltj
                      obtain ⟨b9, o9, rfl, -, -, -, f2, -⟩ := HFX.out.at_ hjl
                      obtain ⟨f, hf⟩ : ∃ f, fs[j] = f := ⟨_, rfl⟩
                      rw [hf] at f2
                      have hf2 : fs[j]? = some f := by rw [List.getElem?_eq_getElem hjl, hf]
                      obtain ⟨h0, h1⟩ := HFTO.out f (List.mem_of_getElem? hf2)
                      obtain ⟨z, hz⟩ := Int.eq_ofNat_of_zero_le h0
                      have hzk : z < k := by omega
                      have hzi : (z : Int) < (k : Int) := by omega
                      obtain ⟨v, hv⟩ : ∃ q, SV[z]? = some q := ⟨_, List.getElem?_eq_getElem (by rw [HSVN.out]; exact hzk)⟩
                      obtain ⟨kb', ko', rfl, _, hkc⟩ := HVS.out (by rw [List.length_map, HSVN.out]; omega)
                      have e2 : wr.cell? ⟨kb', ko' + z, none⟩ = some (.bool v) := hkc z _ (by rw [List.getElem?_map, hv]; rfl)
                      have HFT : Hid ((fs.drop j).any (fun f => !SV.getD f.to.toNat false) = (!v || (fs.drop (j + 1)).any (fun f => !SV.getD f.to.toNat false))) := by
                        show _ = _
                        rw [drop_nextS hf2, List.any_cons, hz, Int.toNat_natCast, List.getD_eq_getElem?_getD, hv]; rfl
                      rw [hz] at f2
                      clear hltj hjl hf hf2 hz h0 h1 hv hkc hzk
                      cases v with
                      | false =>
                        have HLO : Hid (looseS SV s (L.map Sp.s) = true) := by show _ = _; rw [hF.out, HFT.out]; rfl
                        have HAN : Hid (A = ([], []) ∧ okb = false) := keepR_no HAA (.inr (by rw [HSVE.out, ← HLL.out]; exact HLO.out))
                        have HAB := hidden (ansB_none HXR.out HXW.out HAN.out.1 HAN.out.2 HNE.out HME.out)
                        have r0 : wr.cell? ⟨w.heap.size + 1, 0, none⟩ = some (.slice none 0 0) := HXR.out.cell 0
                        have r1 : wr.cell? ⟨w.heap.size + 1, 1, none⟩ = some (.slice none 0 0) := HXR.out.cell 1
                        have u0 : wr.frozen? ⟨w.heap.size + 1, 0, none⟩ = false := HXR.out.free 0
                        have u1 : wr.frozen? ⟨w.heap.size + 1, 1, none⟩ = false := HXR.out.free 1
                        clear hF HFT HLO
                        go_wp21
                        refine bodyPost_ret (results_cell_rowT rfl _ _ (w.heap.size + 1) 26 #[.slice none 0 0, .slice none 0 0] (0, 0) _ rfl HAB.out.1 Try.underlying26 rfl (by kernel_rfl)) rfl ?_
                        exact HAB.out.2
                      | true =>
                        have HF2 : Hid (looseS SV s (L.map Sp.s) = ((true && (fs.drop (j + 1)).any fun f => !SV.getD f.to.toNat false) || looseS SV (s.drop (p + 1)) ((L.map Sp.s).drop (p + 1)))) := by
                          show _ = _
                          rw [hF.out, HFT.out]; rfl
                        clear hF HFT
                        go_wp2_with fail
                        go_roundw
                        case rel => exact ⟨j + 1, by go_num, by omega, trivial, HF2⟩
                        case measure => simp [intOf]; omega
                    | false =>
                      have HF2 : Hid (looseS SV s (L.map Sp.s) = looseS SV (s.drop (p + 1)) ((L.map Sp.s).drop (p + 1))) := by
                        show _ = _
                        rw [hF.out, Bool.false_and, Bool.false_or]
                      clear hF hltj
                      go_wp2_with fail
                      go_roundw
                      case rel => exact ⟨p + 1, by go_num, by omega, trivial, HF2⟩
                      case measure => simp [intOf]; omega
                  · have hiltj : ¬ (j : Int) < (nf : Int) := by omega
                    have HF2 : Hid (looseS SV s (L.map Sp.s) = looseS SV (s.drop (p + 1)) ((L.map Sp.s).drop (p + 1))) := by
                      show _ = _
                      rw [hF.out, List.drop_eq_nil_of_le (by rw [← HNF.out]; omega), List.any_nil, Bool.and_false, Bool.false_or]
                    clear hF hltj
                    go_wp2_with fail
                    go_roundw
                    case rel => exact ⟨p + 1, by go_num, by omega, trivial, HF2⟩
                    case measure => simp [intOf]; omega
              · have hilt : ¬ (p : Int) < (n : Int) := by omega
                have HLO : Hid (looseS SV s (L.map Sp.s) = false) := by
                  show _ = _
                  rw [hU.out, List.drop_eq_nil_of_le (by rw [HKL.out]; omega)]; rfl
                obtain ⟨w9, rfl⟩ : ∃ q, q = wr := ⟨_, rfl⟩
                have hAe := keepR_yes HAA (by rw [← HLL.out]; exact HOK.out) (by rw [HSVE.out, ← HLL.out]; exact HLO.out)
                have HAE := hidden hAe
                obtain ⟨hxw, hxa, hxr, hxs, hxm, hxb⟩ := HX7.out w9 HB79.out
                have hsz : sb ≤ w9.heap.size := Nat.le_trans (Nat.le_of_lt HSL7.out) HB79.out.size
                have HKP := hidden (l9Keep_any w9 w9.heap.size b1 b2 d1 d2 n k L ms HLN.out.symm HM.out (hxs.more hsz) (hxm.more hsz) (Nat.le_refl _) (by omega) (by omega) HSL.out SV ta tc HVS.out HSVN.out (fun y hy => (HTO.out y hy).2))
                have q0 : w9.cell? ⟨w.heap.size, 0, none⟩ = some (.slice b1 n d1) := hxa.cell 0
                have q1 : w9.cell? ⟨w.heap.size, 1, none⟩ = some (.slice b2 k d2) := hxa.cell 1
                clear hlt hU HLO hAe hxw hxa hxr hxs hxm hxb hsz HVS HXR HXS HXB HXW
                go_wp2_with fail
                refine HKP.out.mono ?_
                clear HKP q0 q1
                rintro e w10 ⟨LL, e1, e2, g1, g2, rfl, hLL, hown, hb10⟩
                dsimp only at hLL hown
                obtain ⟨MS, hMS⟩ : ∃ q, keptL SV ms = q := ⟨_, rfl⟩
                rw [hMS] at hown
                rw [hMS]
                have hLn : LL.length = n := by have := congrArg List.length hLL; rw [List.length_map, List.length_map, List.length_map, HLN.out] at this; exact this
                have hA1 : A.1 = (keptSp s LL).map Sp.s := by
                  have e := congrArg Prod.fst HAE.out.1
                  rw [e, keptSp_map, hLL, ← HSVE.out, HLL.out]; rfl
                have hA2 : A.2 = MS.map (reLoc (keptN s)) := by
                  have e := congrArg Prod.snd HAE.out.1
                  rw [e, ← hMS, ← HSVE.out]; rfl
                have hMN : MS.length = M := by rw [← HME.out, hA2, List.length_map]
                rw [hLn, hMN] at hown
                rw [hLn, hMN]
                have hM12 : M ≤ 12 := by
                  have h1 := keptL_le SV ms (by rw [HSVN.out]; exact HM.out)
                  rw [hMS, hMN] at h1
                  have := HM.out
                  omega
                have HIK : Hid (∀ y ∈ MS, 0 ≤ y.loc → y.loc.toNat < n) := fun y hy h0 => by
                  rw [← hMS] at hy
                  exact HLI.out y (keptL_mem _ _ y hy) h0
                have hb11 : Below w10.heap.size w10 (w10.alloc (.cells #[.slice e1 n g1, .slice e2 M g2] 26)) := (Below.refl _ _).alloc (Nat.le_refl _) _
                have hO11 : Has (w10.alloc (.cells #[.slice e1 n g1, .slice e2 M g2] 26)) w10.heap.size 26 #[.slice e1 n g1, .slice e2 M g2] := Has.new _ _ _
                have hown11 := hown.below hb11
                have hb9 := hb10.trans (hb11.mono hb10.size)
                obtain ⟨W11, hW11⟩ : ∃ q, w10.alloc (.cells #[.slice e1 n g1, .slice e2 M g2] 26) = q := ⟨_, rfl⟩
                obtain ⟨ob, hob⟩ : ∃ q, w10.heap.size = q := ⟨_, rfl⟩
                rw [hW11, hob] at hO11
                rw [hW11] at hown11 hb9
                have o1 : W11.cell? ⟨ob, 1, none⟩ = some (.slice e2 M g2) := hO11.cell 1
                have HW11 := hidden hW11
                have HOBB := hidden hob
                -- what stays from here on
                have HY : Hid (∀ W, Below W11.heap.size W11 W → Has W ob 26 #[.slice e1 n g1, .slice e2 M g2] ∧ Sects W W11.heap.size e1 LL ∧ Has W sb 4 (cellsB s) ∧ OwnR W w9.heap.size e1 e2 n M g1 g2 LL MS ∧ Below w9.heap.size w9 W ∧ Below w.heap.size w W ∧ Has W (w.heap.size + 1) 26 #[.slice none 0 0, .slice none 0 0]) := fun W hW => by
                  have h9 := hb9.trans (hW.mono hb9.size)
                  obtain ⟨u1, _, u2, _, _, u3⟩ := HX7.out W (HB79.out.trans (h9.mono HB79.out.size))
                  exact ⟨hO11.below hW hO11.lt, hown11.sects.below hW, u3, hown11.below hW, h9, u1, u2⟩
                have HA1E := hidden hA1
                have HA2E := hidden hA2
                have HLNE := hidden hLn
                have HMNE := hidden hMN
                have HSW9 := hidden hb9.size
                clear hLL hown hb10 hb11 hO11 hown11 hb9 hW11 hob hA1 hA2 hLn hMN hMS
                go_upto_region 24 with fail
                rw [HW11.out, HOBB.out]
                clear HW11 HOBB
                have hP12 := PtS.new W11 (.slice e2 M g2)
                obtain ⟨W12, hW12⟩ : ∃ q, W11.alloc (.cells #[.slice none 0 0, .slice e2 M g2] 26) = q := ⟨_, rfl⟩
                rw [hW12] at hP12
                have HW12 := hidden hW12
                have HPT0 : Hid (PtT W11 (W12.alloc (.cells #[] 3)) (.slice none 0 0) (.slice e2 M g2) [] (.slice (some ⟨W12.heap.size, 0, none⟩) 0 0) 0 []) := ⟨hP12.alloc _, empty_row W12 W11.heap.size 3 1 hP12.below.size⟩
                clear hW12 hP12
                go_upto_region 25 with fail
                rw [HW12.out]
                clear HW12 o1
                obtain ⟨hq0, -⟩ := HY.out _ HPT0.out.pt.below
                have o0 : (W12.alloc (.cells #[] 3)).cell? ⟨ob, 0, none⟩ = some (.slice e1 n g1) := hq0.cell 0
                clear hq0
                go_wp2_with fail
                clear o0
                have HTO0 : Hid (PtT W11 (W12.alloc (.cells #[] 3)) (.slice none 0 0) (.slice e2 M g2) (keptSp (s.take 0) (LL.take 0)) (.slice (some ⟨W12.heap.size, 0, none⟩) 0 0) 0 (tosL s 0)) := HPT0.out
                clear HPT0
                go_loopw [14, 15] (fun tv i wr => ∃ (p2 j : Nat) (va : Option Addr) (vc : Nat) (ta2 : Option Addr) (tc2 : Nat), i = .int .i64 p2 ∧ tv = .slice ta2 p2 tc2 ∧ p2 ≤ n ∧ Hid ((keptSp (s.take p2) (LL.take p2)).length = j) ∧ Hid (PtT W11 wr (.slice va j vc) (.slice e2 M g2) (keptSp (s.take p2) (LL.take p2)) (.slice ta2 p2 tc2) p2 (tosL s p2))) (fun _ i _ => n - (intOf i).toNat)
                case atStart => exact ⟨0, 0, none, 0, _, 0, rfl, rfl, Nat.zero_le _, (by show _ = _; rfl), HTO0⟩
                case round =>
                  obtain ⟨p2, j, va, vc, ta2, tc2, rfl, rfl, hp2, hj, hpt⟩ := hrel
                  clear HTO0
                  obtain ⟨hqo, hqs, hqb, -, -, -, -⟩ := HY.out wr hpt.out.pt.below
                  have o0 : wr.cell? ⟨ob, 0, none⟩ = some (.slice e1 n g1) := hqo.cell 0
                  have o2 : wr.cell? ⟨W11.heap.size, 0, none⟩ = some (.slice va j vc) := hpt.out.pt.obj.cell 0
                  by_cases hlt : p2 < n
                  · have hilt : (p2 : Int) < (n : Int) := by omega
                    have hpl : p2 < LL.length := by rw [HLNE.out]; exact hlt
                    obtain ⟨b, hb⟩ : ∃ b, s[p2]? = some b := ⟨_, List.getElem?_eq_getElem (by rw [HKL.out]; exact hlt)⟩
                    obtain ⟨y, hy⟩ : ∃ y, LL[p2] = y := ⟨_, rfl⟩
                    have hy2 : LL[p2]? = some y := by rw [List.getElem?_eq_getElem hpl, hy]
                    have hsl : s.length = LL.length := by rw [HKL.out, HLNE.out]
                    have hnx := keptSp_next hsl hb hy2
                    have hjl : j ≤ p2 := by
                      have h1 := (keptSp_sub (s.take p2) (LL.take p2)).length_le
                      rw [hj.out, List.length_take] at h1
                      omega
                    have hmany := keptN_many hsl (k := p2)
                    obtain ⟨LT, hLT⟩ : ∃ q, keptSp (s.take p2) (LL.take p2) = q := ⟨_, rfl⟩
                    rw [hLT] at hnx hj hpt hmany
                    rw [hj.out] at hmany
                    have HNX := hidden hnx
                    have HTT : Hid ((tosL s (p2 + 1)).map (Value.int .i64) = (tosL s p2).map (Value.int .i64) ++ [.int .i64 j]) := by
                      show _ = _
                      rw [tosL_next, List.map_append, hmany]; rfl
                    obtain ⟨xs, hxs⟩ : ∃ q, (tosL s p2).map (Value.int .i64) = q := ⟨_, rfl⟩
                    have hrow := hpt.out.row
                    rw [hxs] at hrow HTT
                    obtain ⟨T1, hT1⟩ : ∃ q, tosL s (p2 + 1) = q := ⟨_, rfl⟩
                    rw [hT1] at HTT
                    have HT1 := hidden hT1
                    have hba : Below wr.heap.size wr (wr.alloc (.cells #[.int .i64 (j : Int)] 3)) := (Below.refl _ _).alloc (Nat.le_refl _) _
                    have K1 := hidden (hrow.kept (grown_only hba) (Classical.em _))
                    have K2 : Hid (Has (wr.alloc (.cells #[.int .i64 (j : Int)] 3)) wr.heap.size 3 #[.int .i64 (j : Int)]) := Has.new _ _ _
                    have K3 : Hid (W11.heap.size ≤ (wr.alloc (.cells #[.int .i64 (j : Int)] 3)).heap.size) := Nat.le_trans hpt.out.pt.below.size hba.size
                    have K4 := hidden (hpt.out.only hba)
                    have hSQ : Hid (∀ W, Below W11.heap.size W11 W → W.cell? ⟨sb, p2, none⟩ = some (.bool b)) := fun W hW => ((HY.out W hW).2.2.1.cell p2).trans (cellsB_at hb)
                    obtain ⟨bq, off, rfl, hbB, -⟩ := hqs.at_ hpl
                    have HSC : Hid (∀ W, Below W11.heap.size W11 W → W.cell? ⟨ob, 0, none⟩ = some (.slice (some ⟨bq, off, none⟩) n g1) ∧ SecAt W bq (off + p2 * 6) y) := fun W hW => by
                      obtain ⟨h1, h2, -⟩ := HY.out W hW
                      obtain ⟨b', o', e', _, h3⟩ := h2.at_ hpl
                      injection e' with e'; injection e' with e1 e2; subst e1; subst e2
                      rw [hy] at h3
                      exact ⟨h1.cell 0, h3⟩
                    clear hqo hqs hqb hpl hb hy hy2 hsl hnx hmany hLT hxs hrow hT1 hba hpt hbB hlt
                    go_wp2_with (at_builtin; refine wpList_app_int _ rfl _ _ rfl W11.heap.size _ p2 _ rfl K1.out wr.heap.size 1 (j : Int) rfl K2.out (by omega) K3.out ?_)
                    intro ta' tc' W8 hrow8 hg8
                    have HP8 : Hid (PtT W11 W8 (.slice va j vc) (.slice e2 M g2) LT (.slice ta' (p2 + 1) tc') (p2 + 1) T1) := K4.out.app hg8 (by rw [HTT.out]; exact hrow8)
                    have e5 : W8.cell? ⟨sb, p2, none⟩ = some (.bool b) := hSQ.out W8 HP8.out.pt.below
                    clear K1 K2 K3 K4 hrow8 hg8 HTT hSQ o0 o2
                    cases b with
                    | false =>
                      have HJ1 : Hid ((keptSp (s.take (p2 + 1)) (LL.take (p2 + 1))).length = j) := by show _ = _; rw [HNX.out]; simpa using hj.out
                      have HP9 : Hid (PtT W11 W8 (.slice va j vc) (.slice e2 M g2) (keptSp (s.take (p2 + 1)) (LL.take (p2 + 1))) (.slice ta' (p2 + 1) tc') (p2 + 1) (tosL s (p2 + 1))) := by
                        have h2 : keptSp (s.take (p2 + 1)) (LL.take (p2 + 1)) = LT := by rw [HNX.out]; simp
                        rw [h2, HT1.out]; exact HP8.out
                      clear HNX HT1 HP8 hj HSC
                      go_wp2_with fail
                      go_roundw
                      case rel => exact ⟨p2 + 1, j, va, vc, ta', tc', by go_num, rfl, by omega, HJ1, HP9⟩
                      case measure => simp [intOf]; omega
                    | true =>
                      have HNX2 : Hid (keptSp (s.take (p2 + 1)) (LL.take (p2 + 1)) = LT ++ [y]) := HNX.out
                      have HLT := hj
                      obtain ⟨⟨nm, kd, al, bs, sz, fs⟩, ya1, yc1, ya2, yc2⟩ := y
                      obtain ⟨nb, hnb⟩ : ∃ q, bs.length = q := ⟨_, rfl⟩
                      obtain ⟨nf, hnf⟩ : ∃ q, fs.length = q := ⟨_, rfl⟩
                      have HSC2 : Hid (∀ W, Below W11.heap.size W11 W → W.cell? ⟨ob, 0, none⟩ = some (.slice (some ⟨bq, off, none⟩) n g1) ∧ W.cell? ⟨bq, off + p2 * 6, none⟩ = some (.string nm) ∧ W.cell? ⟨bq, off + p2 * 6 + 1, none⟩ = some (.int .i64 kd) ∧ W.cell? ⟨bq, off + p2 * 6 + 2, none⟩ = some (.int .i64 al) ∧ W.cell? ⟨bq, off + p2 * 6 + 3, none⟩ = some (.slice ya1 nb yc1) ∧ W.cell? ⟨bq, off + p2 * 6 + 4, none⟩ = some (.int .i64 sz) ∧ W.cell? ⟨bq, off + p2 * 6 + 5, none⟩ = some (.slice ya2 nf yc2)) := fun W hW => by
                        obtain ⟨g0, g1, g2, g3, g4, g5, g6⟩ := HSC.out W hW
                        dsimp only at g1 g2 g3 g4 g5 g6
                        rw [hnb] at g4
                        rw [hnf] at g6
                        exact ⟨g0, g1, g2, g3, g4, g5, g6⟩
                      have HCE : Hid (secCells ⟨⟨nm, kd, al, bs, sz, fs⟩, ya1, yc1, ya2, yc2⟩ = [.string nm, .int .i64 kd, .int .i64 al, .slice ya1 nb yc1, .int .i64 sz, .slice ya2 nf yc2]) := by
                        show _ = _
                        unfold secCells
                        dsimp only
                        rw [hnb, hnf]
                      clear HSC hnb hnf HNX hj
                      go_wp2_with fail
                      have HJ0 : Hid (JPT W11 (.slice va j vc) (.slice e2 M g2) LT ⟨⟨nm, kd, al, bs, sz, fs⟩, ya1, yc1, ya2, yc2⟩ j (.slice ta' (p2 + 1) tc') (p2 + 1) T1 0 W8.drew fun _ => undef) := by
                        have h := HP8.out.only (W' := W8.drew) ⟨rfl, rfl, rfl, Nat.le_refl _, fun _ _ => rfl⟩
                        exact ⟨h.pt, h.row⟩
                      clear HP8 e5
                      go_upto_region 31 with fail
                      refine wp_region_chain (m := 3) (js := [.quiet (.pointer (some ⟨W11.heap.size, 0, none⟩)) 3, .quiet (.slice va j vc) 1, .quiet (.pointer (some ⟨ob, 0, none⟩)) 3, .quiet (.slice (some ⟨bq, off, none⟩) n g1) 3, .quiet (.int .i64 p2) 3, .quiet (.pointer (some ⟨bq, off + p2 * 6, none⟩)) 3, .quiet (.agg #[.string nm, .int .i64 kd, .int .i64 al, .slice ya1 nb yc1, .int .i64 sz, .slice ya2 nf yc2]) 3, .chain 0, .chain 1, .quiet (.pointer (some ⟨W11.heap.size, 0, none⟩)) 3, .chain 2]) (by kernel_rfl) (JPT W11 (.slice va j vc) (.slice e2 M g2) LT ⟨⟨nm, kd, al, bs, sz, fs⟩, ya1, yc1, ya2, yc2⟩ j (.slice ta' (p2 + 1) tc') (p2 + 1) T1) (by kernel_rfl) (by kernel_rfl) ⟨_, HJ0.out⟩ (fun vals => ?_) ?_
                      · show SeqW _ _ _ _ _ _ _
                        refine ⟨fun kk hkk W hW => ?_, ?_⟩
                        · unfold Oper.wp
                          simp [go_sem]
                          try exact ⟨_, rfl, rfl⟩
                        simp only [Act.put, List.setIfInBounds_toArray, List.set_cons_succ, List.set_cons_zero]
                        refine ⟨fun kk hkk W hW => ?_, ?_⟩
                        · have q : W.cell? ⟨W11.heap.size, 0, none⟩ = some (.slice va j vc) := (JPT.obj hW hkk).cell 0
                          unfold Oper.wp
                          simp [go_sem, q]
                          try exact ⟨_, rfl, rfl⟩
                        simp only [Act.put, List.setIfInBounds_toArray, List.set_cons_succ, List.set_cons_zero]
                        refine ⟨fun kk hkk W hW => ?_, ?_⟩
                        · unfold Oper.wp
                          simp [go_sem]
                          try exact ⟨_, rfl, rfl⟩
                        simp only [Act.put, List.setIfInBounds_toArray, List.set_cons_succ, List.set_cons_zero]
                        refine ⟨fun kk hkk W hW => ?_, ?_⟩
                        · obtain ⟨q0, _⟩ := HSC2.out W (JPT.below hW)
                          unfold Oper.wp
                          simp [go_sem, q0]
                          try exact ⟨_, rfl, rfl⟩
                        simp only [Act.put, List.setIfInBounds_toArray, List.set_cons_succ, List.set_cons_zero]
                        refine ⟨fun kk hkk W hW => ?_, ?_⟩
                        · unfold Oper.wp
                          simp [go_sem]
                          try exact ⟨_, rfl, rfl⟩
                        simp only [Act.put, List.setIfInBounds_toArray, List.set_cons_succ, List.set_cons_zero]
                        refine ⟨fun kk hkk W hW => ?_, ?_⟩
                        · have hilt' : (p2 : Int) < (n : Int) := hilt
                          unfold Oper.wp
                          simp [go_sem, hilt']
                          try exact ⟨_, rfl, rfl⟩
                        simp only [Act.put, List.setIfInBounds_toArray, List.set_cons_succ, List.set_cons_zero]
                        refine ⟨fun kk hkk W hW => ?_, ?_⟩
                        · obtain ⟨_, q0, q1, q2, q3, q4, q5⟩ := HSC2.out W (JPT.below hW)
                          unfold Oper.wp
                          simp [go_sem, q0, q1, q2, q3, q4, q5]
                          try exact ⟨_, rfl, rfl⟩
                        simp only [Act.put, List.setIfInBounds_toArray, List.set_cons_succ, List.set_cons_zero]
                        refine ⟨fun W hW => ?_, ?_⟩
                        · have hN : JPT W11 (.slice va j vc) (.slice e2 M g2) LT ⟨⟨nm, kd, al, bs, sz, fs⟩, ya1, yc1, ya2, yc2⟩ j (.slice ta' (p2 + 1) tc') (p2 + 1) T1 1 (W.alloc (.cells #[.string nm, .int .i64 kd, .int .i64 al, .slice ya1 nb yc1, .int .i64 sz, .slice ya2 nf yc2] 64)) (upd vals 0 (.slice (some ⟨W.heap.size, 0, none⟩) 1 1)) := ⟨⟨PtS.alloc hW.jp _, W.heap.size, rfl, by rw [HCE.out]; exact Has.new _ _ _⟩, hW.row.alloc _⟩
                          unfold Oper.wp
                          simp [go_sem]
                          first | exact hN | exact ⟨_, rfl, hN⟩
                        simp only [Act.put, List.setIfInBounds_toArray, List.set_cons_succ, List.set_cons_zero]
                        refine ⟨fun W hW => ?_, ?_⟩
                        · obtain ⟨⟨hW1, hb, hv, hh⟩, hWr⟩ := hW
                          refine wp_append_row _ _ 23 64 rfl _ 6 88 Try.info_section Try.underlying23 rfl (by decide) (by decide) W11.heap.size (.slice va j vc) j (flatS LT) rfl (by have := hW1.row; rwa [HLT.out] at this) (some ⟨hb, 0, none⟩) 1 1 (secCells ⟨⟨nm, kd, al, bs, sz, fs⟩, ya1, yc1, ya2, yc2⟩) hv rfl (fun _ => ⟨hb, 0, rfl, fun i u hi => by rw [Nat.zero_add, hh.cell, List.getElem?_toArray]; exact hi⟩) ?_ (by omega) hW1.below.size ?_
                          · intro u hu
                            unfold secCells at hu
                            simp only [List.mem_cons, List.not_mem_nil, or_false] at hu
                            rcases hu with rfl | rfl | rfl | rfl | rfl | rfl <;> rfl
                          · intro v' w' h2 h3
                            obtain ⟨b2, d2, rfl⟩ := own_shape h2
                            obtain ⟨q0, q1, q2⟩ := hW1.app (y := ⟨⟨nm, kd, al, bs, sz, fs⟩, ya1, yc1, ya2, yc2⟩) h3 (by rw [HLT.out]; exact h2)
                            exact ⟨_, rfl, (⟨⟨b2, d2, rfl, q0, q1, q2⟩, hWr.kept h3 (rows_apart hWr hW1.row (by decide))⟩ : JPT W11 (.slice va j vc) (.slice e2 M g2) LT ⟨⟨nm, kd, al, bs, sz, fs⟩, ya1, yc1, ya2, yc2⟩ j (.slice ta' (p2 + 1) tc') (p2 + 1) T1 2 w' (upd vals 1 (.slice b2 (j + 1) d2)))⟩
                        simp only [Act.put, List.setIfInBounds_toArray, List.set_cons_succ, List.set_cons_zero]
                        refine ⟨fun kk hkk W hW => ?_, ?_⟩
                        · unfold Oper.wp
                          simp [go_sem]
                          try exact ⟨_, rfl, rfl⟩
                        simp only [Act.put, List.setIfInBounds_toArray, List.set_cons_succ, List.set_cons_zero]
                        refine ⟨fun W hW => ?_, trivial⟩
                        obtain ⟨⟨b2, d2, hv2, _, q1, q2⟩, hWr⟩ := hW
                        rw [hv2]
                        have ck : W.cell? ⟨W11.heap.size, 0, none⟩ = some (.slice va j vc) := q1.cell 0
                        have fk : W.frozen? ⟨W11.heap.size, 0, none⟩ = false := q1.free 0
                        have hKW := hWr.kept (only_put' 0 (Value.slice b2 (j + 1) d2)) (row_apart hWr q1 (by decide))
                        have hN : ∀ u, JPT W11 (.slice va j vc) (.slice e2 M g2) LT ⟨⟨nm, kd, al, bs, sz, fs⟩, ya1, yc1, ya2, yc2⟩ j (.slice ta' (p2 + 1) tc') (p2 + 1) T1 3 (W.setCell ⟨W11.heap.size, 0, none⟩ (.slice b2 (j + 1) d2)) (upd vals 2 u) := fun u => ⟨⟨b2, d2, q2⟩, hKW⟩
                        clear q1 q2 hWr hKW
                        unfold Oper.wp
                        simp [go_sem, ck, fk]
                        first | exact hN _ | exact ⟨undef, hN _⟩ | exact ⟨_, rfl, hN _⟩
                      · intro W vals hJ
                        obtain ⟨⟨b3, d3, hK9⟩, hKr⟩ := hJ
                        simp only [putAll, List.map_cons, List.map_nil, Job.val, Act.put, List.setIfInBounds_toArray, List.set_cons_succ, List.set_cons_zero]
                        have HJ1 : Hid ((keptSp (s.take (p2 + 1)) (LL.take (p2 + 1))).length = j + 1) := by show _ = _; rw [HNX2.out, List.length_append, HLT.out]; rfl
                        have HP9 : Hid (PtT W11 W (.slice b3 (j + 1) d3) (.slice e2 M g2) (keptSp (s.take (p2 + 1)) (LL.take (p2 + 1))) (.slice ta' (p2 + 1) tc') (p2 + 1) (tosL s (p2 + 1))) := by
                          rw [HNX2.out, HT1.out]; exact ⟨hK9, hKr⟩
                        clear hK9 hKr HJ0 HSC2 HCE HNX2 HT1 HLT
                        go_wp2_with fail
                        go_roundw
                        case rel => exact ⟨p2 + 1, j + 1, b3, d3, ta', tc', by go_num, rfl, by omega, HJ1, HP9⟩
                        case measure => simp [intOf]; omega
                  · have hilt : ¬ (p2 : Int) < (n : Int) := by omega
                    have hpn : p2 = n := by omega
                    have hpt2 := hpt.out
                    have hj2 := hj.out
                    rw [hpn, List.take_of_length_le (show s.length ≤ n by rw [HKL.out]; exact Nat.le_refl _), List.take_of_length_le (show LL.length ≤ n by rw [HLNE.out]; exact Nat.le_refl _)] at hpt2 hj2
                    have hjN : j = N := by rw [← hj2, ← HNE.out, HA1E.out, List.length_map]
                    rw [hjN] at hpt2
                    obtain ⟨-, -, -, how, hb9, -, -⟩ := HY.out wr hpt2.pt.below
                    have hle : w9.heap.size ≤ W11.heap.size := HSW9.out
                    have HOB0 : Hid (Ob wr W11.heap.size w9.heap.size (.slice va N vc) (.slice e2 M g2) (keptSp s LL) (locN (keptN s) 0 MS)) := ⟨hpt2.pt.obj, how.secs.sub (keptSp_sub _ _) hpt2.pt.row hle, by rw [locN_start, HMNE.out]; exact how.syms⟩
                    have HB90 := hidden hb9
                    have HR0 : Hid (wr.ownsRow w9.heap.size 3 1 (.slice ta2 n tc2) n ((tosL s n).map (Value.int .i64))) := own_lower hpt2.row hle
                    have q1 : wr.cell? ⟨W11.heap.size, 1, none⟩ = some (.slice e2 M g2) := hpt2.pt.obj.cell 1
                    have HKT : Hid (∀ W, Hid (W.ownsRow w9.heap.size 3 1 (.slice ta2 n tc2) n ((tosL s n).map (Value.int .i64))) → Vals W W.heap.size ta2 ((tosL s n).map (Value.int .i64))) := fun W h => own_vals h.out (by unfold tosL; rw [List.length_map, List.length_range])
                    obtain ⟨TS, hTS⟩ : ∃ q, (tosL s n).map (Value.int .i64) = q := ⟨_, rfl⟩
                    have HTA : Hid (∀ q, q < n → TS[q]? = some (.int .i64 (keptN s (q : Int)))) := fun q hq => by rw [← hTS, List.getElem?_map, tosL_at s hq]; rfl
                    have HTL : Hid (TS.length = n) := by show _ = _; rw [← hTS, List.length_map]; unfold tosL; rw [List.length_map, List.length_range]
                    obtain ⟨KL, hKL⟩ : ∃ q, keptSp s LL = q := ⟨_, rfl⟩
                    rw [hTS] at HR0 HKT
                    rw [hKL] at HOB0 HA1E
                    have HKLN : Hid (KL.length = N) := by show _ = _; rw [← HNE.out, HA1E.out, List.length_map]
                    subst hpn
                    clear hpt hj hpt2 hj2 hjN how hb9 hle hTS hKL hlt
                    go_wp2_with fail
                    clear o0 o2 hilt q1
                    go_loopw [16] (fun i wr => ∃ j : Nat, i = .int .i64 j ∧ j ≤ M ∧ Hid (Ob wr W11.heap.size w9.heap.size (.slice va N vc) (.slice e2 M g2) KL (locN (keptN s) j MS)) ∧ Hid (Below w9.heap.size w9 wr) ∧ Hid (wr.ownsRow w9.heap.size 3 1 (.slice ta2 p2 tc2) p2 TS)) (fun i _ => M - (intOf i).toNat)
                    case atStart => exact ⟨0, rfl, Nat.zero_le _, HOB0, HB90, HR0⟩
                    case round =>
                      obtain ⟨j, rfl, hj, hob, hb9, hrow⟩ := hrel
                      clear HOB0 HB90 HR0
                      have t1 : wr.cell? ⟨W11.heap.size, 1, none⟩ = some (.slice e2 M g2) := hob.out.obj.cell 1
                      by_cases hlt : j < M
                      · have hilt : (j : Int) < (M : Int) := by omega
                        obtain ⟨y, hy⟩ : ∃ y, MS[j]? = some y := ⟨_, List.getElem?_eq_getElem (by rw [HMNE.out]; exact hlt)⟩
                        have HIK2 := hidden (HIK.out y (List.mem_of_getElem? hy))
                        obtain ⟨g, gc, hvm, hgl, ⟨cs, hgs⟩, _, _, t4, _, _⟩ := hob.out.setLoc (locN_at (t := keptN s) hy)
                        rw [locN_length, HMNE.out] at hvm
                        injection hvm with hb2 hz1 hz2
                        subst hb2
                        clear hz1 hz2
                        by_cases h0 : 0 ≤ y.loc
                        · obtain ⟨p, hp⟩ := Int.eq_ofNat_of_zero_le h0
                          have hpn := HIK2.out h0
                          rw [hp, Int.toNat_natCast] at hpn
                          have hpi : (p : Int) < (p2 : Int) := by omega
                          have HLY := hidden (locN_yes (t := keptN s) hy h0)
                          rw [hp] at HLY t4
                          obtain ⟨vk, hvk⟩ : ∃ q, keptN s (p : Int) = q := ⟨_, rfl⟩
                          have htp := HTA.out p hpn
                          rw [hvk] at htp HLY
                          obtain ⟨kb, ko, hta, _, hkc⟩ := HKT.out wr hrow (by rw [HTL.out]; omega)
                          have t2 := hkc p _ htp
                          subst hta
                          have key : ∀ z, Hid (Ob ((wr.drewN z).setCell ⟨g, j * 4 + 2, none⟩ (.int .i64 vk)) W11.heap.size w9.heap.size (.slice va N vc) (.slice (some ⟨g, 0, none⟩) M g2) KL (locN (keptN s) (j + 1) MS)) ∧ (wr.drewN z).grownBy ((wr.drewN z).setCell ⟨g, j * 4 + 2, none⟩ (.int .i64 vk)) (some g) := fun z => by
                            have ho := hob.out.only (below_drewN (Below.refl _ _) z)
                            obtain ⟨g2', _, hvm2, _, _, _, _, _, _, hset⟩ := ho.setLoc (locN_at (t := keptN s) hy)
                            rw [locN_length, HMNE.out] at hvm2
                            injection hvm2 with hb2 hz1 hz2
                            injection hb2 with hb2
                            injection hb2 with hb2
                            subst hb2
                            rw [HLY.out]
                            exact hset vk
                          have HST : Hid (∀ z, Hid (Ob ((wr.drewN z).setCell ⟨g, j * 4 + 2, none⟩ (.int .i64 vk)) W11.heap.size w9.heap.size (.slice va N vc) (.slice (some ⟨g, 0, none⟩) M g2) KL (locN (keptN s) (j + 1) MS))) := fun z => (key z).1
                          have HSB : Hid (∀ z, Hid (Below w9.heap.size w9 ((wr.drewN z).setCell ⟨g, j * 4 + 2, none⟩ (.int .i64 vk)))) := fun z => (below_drewN hb9.out z).grown (key z).2 hb9.out.size (by intro q hq; injection hq with hq; omega)
                          have HSRW : Hid (∀ z, Hid (((wr.drewN z).setCell ⟨g, j * 4 + 2, none⟩ (.int .i64 vk)).ownsRow w9.heap.size 3 1 (.slice (some ⟨kb, ko, none⟩) p2 tc2) p2 TS)) := fun z => by
                            have h1 := hrow.out.kept (grown_only (below_drewN (Below.refl _ wr) z)) (Classical.em _)
                            exact h1.kept (key z).2 (row_apart h1 (hgs.drewN z) (by decide))
                          have t5 : wr.frozen? ⟨g, j * 4 + 2, none⟩ = false := hgs.free _
                          clear hy hob hb9 hrow key hgs hgl hp hpn h0 HLY hvk htp hkc HIK2
                          go_upto_region 36 with fail
                          refine wp_region_chain (m := 1) (js := [.quiet (.pointer (some ⟨W11.heap.size, 1, none⟩)) 1, .quiet (.slice (some ⟨g, 0, none⟩) M g2) 0, .quiet (.int .i64 j) 1, .quiet (.slice (some ⟨kb, ko, none⟩) p2 tc2) 1, .quiet (.pointer (some ⟨W11.heap.size, 1, none⟩)) 1, .quiet (.slice (some ⟨g, 0, none⟩) M g2) 0, .quiet (.int .i64 j) 1, .quiet (.pointer (some ⟨g, j * 4, none⟩)) 1, .quiet (.pointer (some ⟨g, j * 4 + 2, none⟩)) 1, .quiet (.int .i64 (p : Int)) 0, .quiet (.pointer (some ⟨kb, ko + p, none⟩)) 1, .quiet (.int .i64 vk) 0, .quiet (.pointer (some ⟨g, j * 4, none⟩)) 1, .quiet (.pointer (some ⟨g, j * 4 + 2, none⟩)) 1, .chain 0]) (by kernel_rfl) (JLT wr w9 W11.heap.size (.slice va N vc) (.slice (some ⟨g, 0, none⟩) M g2) KL (locN (keptN s) (j + 1) MS) (.slice (some ⟨kb, ko, none⟩) p2 tc2) p2 TS) (by kernel_rfl) (by kernel_rfl) ⟨fun _ => undef, (⟨1, rfl⟩ : ∃ z, wr.drew = wr.drewN z)⟩ (fun vals => ?_) ?_
                          · show SeqW _ _ _ _ _ _ _
                            refine ⟨fun kk hkk W hW => ?_, ?_⟩
                            · unfold Oper.wp
                              simp [go_sem]
                              try exact ⟨_, rfl, rfl⟩
                            simp only [Act.put, List.setIfInBounds_toArray, List.set_cons_succ, List.set_cons_zero]
                            refine ⟨fun kk hkk W hW => ?_, ?_⟩
                            · obtain ⟨z, rfl⟩ := JLT.at0 hW (by omega)
                              unfold Oper.wp
                              simp [go_sem, t1]
                              try exact ⟨_, rfl, rfl⟩
                            simp only [Act.put, List.setIfInBounds_toArray, List.set_cons_succ, List.set_cons_zero]
                            refine ⟨fun kk hkk W hW => ?_, ?_⟩
                            · unfold Oper.wp
                              simp [go_sem]
                              try exact ⟨_, rfl, rfl⟩
                            simp only [Act.put, List.setIfInBounds_toArray, List.set_cons_succ, List.set_cons_zero]
                            refine ⟨fun kk hkk W hW => ?_, ?_⟩
                            · unfold Oper.wp
                              simp [go_sem]
                              try exact ⟨_, rfl, rfl⟩
                            simp only [Act.put, List.setIfInBounds_toArray, List.set_cons_succ, List.set_cons_zero]
                            refine ⟨fun kk hkk W hW => ?_, ?_⟩
                            · unfold Oper.wp
                              simp [go_sem]
                              try exact ⟨_, rfl, rfl⟩
                            simp only [Act.put, List.setIfInBounds_toArray, List.set_cons_succ, List.set_cons_zero]
                            refine ⟨fun kk hkk W hW => ?_, ?_⟩
                            · obtain ⟨z, rfl⟩ := JLT.at0 hW (by omega)
                              unfold Oper.wp
                              simp [go_sem, t1]
                              try exact ⟨_, rfl, rfl⟩
                            simp only [Act.put, List.setIfInBounds_toArray, List.set_cons_succ, List.set_cons_zero]
                            refine ⟨fun kk hkk W hW => ?_, ?_⟩
                            · unfold Oper.wp
                              simp [go_sem]
                              try exact ⟨_, rfl, rfl⟩
                            simp only [Act.put, List.setIfInBounds_toArray, List.set_cons_succ, List.set_cons_zero]
                            refine ⟨fun kk hkk W hW => ?_, ?_⟩
                            · have q := hilt
                              unfold Oper.wp
                              simp [go_sem, q]
                              try exact ⟨_, rfl, rfl⟩
                            simp only [Act.put, List.setIfInBounds_toArray, List.set_cons_succ, List.set_cons_zero]
                            refine ⟨fun kk hkk W hW => ?_, ?_⟩
                            · unfold Oper.wp
                              simp [go_sem]
                              try exact ⟨_, rfl, rfl⟩
                            simp only [Act.put, List.setIfInBounds_toArray, List.set_cons_succ, List.set_cons_zero]
                            refine ⟨fun kk hkk W hW => ?_, ?_⟩
                            · obtain ⟨z, rfl⟩ := JLT.at0 hW (by omega)
                              unfold Oper.wp
                              simp [go_sem, t4]
                              try exact ⟨_, rfl, rfl⟩
                            simp only [Act.put, List.setIfInBounds_toArray, List.set_cons_succ, List.set_cons_zero]
                            refine ⟨fun kk hkk W hW => ?_, ?_⟩
                            · have q := hpi
                              unfold Oper.wp
                              simp [go_sem, q]
                              try exact ⟨_, rfl, rfl⟩
                            simp only [Act.put, List.setIfInBounds_toArray, List.set_cons_succ, List.set_cons_zero]
                            refine ⟨fun kk hkk W hW => ?_, ?_⟩
                            · obtain ⟨z, rfl⟩ := JLT.at0 hW (by omega)
                              unfold Oper.wp
                              simp [go_sem, t2]
                              try exact ⟨_, rfl, rfl⟩
                            simp only [Act.put, List.setIfInBounds_toArray, List.set_cons_succ, List.set_cons_zero]
                            refine ⟨fun kk hkk W hW => ?_, ?_⟩
                            · have q := hilt
                              unfold Oper.wp
                              simp [go_sem, q]
                              try exact ⟨_, rfl, rfl⟩
                            simp only [Act.put, List.setIfInBounds_toArray, List.set_cons_succ, List.set_cons_zero]
                            refine ⟨fun kk hkk W hW => ?_, ?_⟩
                            · unfold Oper.wp
                              simp [go_sem]
                              try exact ⟨_, rfl, rfl⟩
                            simp only [Act.put, List.setIfInBounds_toArray, List.set_cons_succ, List.set_cons_zero]
                            refine ⟨fun W hW => ?_, trivial⟩
                            obtain ⟨z, rfl⟩ := JLT.at0 hW rfl
                            have hN : ∀ u, (JLT wr w9 W11.heap.size (.slice va N vc) (.slice (some ⟨g, 0, none⟩) M g2) KL (locN (keptN s) (j + 1) MS) (.slice (some ⟨kb, ko, none⟩) p2 tc2) p2 TS) 1 ((wr.drewN z).setCell ⟨g, j * 4 + 2, none⟩ (.int .i64 vk)) (upd vals 0 u) := fun u => ⟨HST.out z, HSB.out z, HSRW.out z⟩
                            unfold Oper.wp
                            simp [go_sem, t4, t5]
                            first | exact hN _ | exact ⟨undef, hN _⟩ | exact ⟨_, rfl, hN _⟩
                          · intro W vals hJ
                            obtain ⟨HO2, HB2, HR2⟩ := hJ
                            simp only [putAll, List.map_cons, List.map_nil, Job.val, Act.put, List.setIfInBounds_toArray, List.set_cons_succ, List.set_cons_zero]
                            clear t1 t2 t4 t5 HST HSB HSRW
                            go_wp2_with fail
                            go_roundw
                            case rel => exact ⟨j + 1, by go_num, by omega, HO2, HB2, HR2⟩
                            case measure => simp [intOf]; omega
                        · have hd0 : ¬ (0 : Int) ≤ y.loc := h0
                          have HOB1 : Hid (Ob wr W11.heap.size w9.heap.size (.slice va N vc) (.slice (some ⟨g, 0, none⟩) M g2) KL (locN (keptN s) (j + 1) MS)) := by rw [locN_no hy h0]; exact hob.out
                          clear hy hob hgs hgl h0 HIK2
                          go_wp2_with fail
                          go_roundw
                          case rel => exact ⟨j + 1, by go_num, by omega, HOB1, hb9, hrow⟩
                          case measure => simp [intOf]; omega
                      · have hilt : ¬ (j : Int) < (M : Int) := by omega
                        have hjm : j = MS.length := by rw [HMNE.out]; omega
                        have hfin := hob.out
                        rw [hjm, locN_all, ← HA2E.out] at hfin
                        have h79 := HB79.out.trans (hb9.out.mono HB79.out.size)
                        obtain ⟨hxw, _, hxr, _, _, _⟩ := HX7.out wr h79
                        have hOW : OwnR wr w9.heap.size va e2 N M vc g2 KL A.2 := ⟨hb9.out.size, HKLN.out, HME.out, hfin.secs, by have := hfin.syms; rwa [HME.out] at this⟩
                        have hrl2 : w.heap.size + 1 < w9.heap.size := by have := HSL7.out; have := HB79.out.size; omega
                        have HAB := hidden (ansB_store hxr hrl2 hOW HA1E.out.symm hxw HAE.out.2)
                        have o0 : wr.cell? ⟨W11.heap.size, 0, none⟩ = some (.slice va N vc) := hfin.obj.cell 0
                        have r0 : wr.cell? ⟨w.heap.size + 1, 0, none⟩ = some (.slice none 0 0) := hxr.cell 0
                        have r1 : wr.cell? ⟨w.heap.size + 1, 1, none⟩ = some (.slice none 0 0) := hxr.cell 1
                        have u0 : wr.frozen? ⟨w.heap.size + 1, 0, none⟩ = false := hxr.free 0
                        have u1 : wr.frozen? ⟨w.heap.size + 1, 1, none⟩ = false := hxr.free 1
                        clear hlt hjm hob hb9 hfin hxw hxr hOW hrl2 hj h79
                        go_wp21
                        refine bodyPost_ret (results_cell_rowT rfl _ _ (w.heap.size + 1) 26 #[.slice va N vc, .slice e2 M g2] (0, 0) _ rfl HAB.out.1 Try.underlying26 rfl (by kernel_rfl)) rfl ?_
                        exact HAB.out.2

end Go.Proofs.Ytjpclpjhigongaa

/-
  A map from names to what symbols do with them, on the heap; impl.nameUses.
-/
import Derived.Test.YtjakkiidedmifaaLnkI
import Derived.Test.YtjakkiidedmifaaRegX
import Derived.Deep.RegionWith
namespace Go.Proofs.Ytjakkiidedmifaa
open Go.RowKit Go.Maps Go.WideMaps

/-- How a use reads. -/
def useD (u : Use) : DataW Unit := .agg [.lit (.int .i64 u.inn), .lit (.int .i64 u.at_), .lit (.bool u.given), .lit (.int .i64 u.strong), .lit (.bool u.wanted)]
def useElem (v : Value) : Option (DataW Unit × List MemPlace) :=
  match v with
  | .agg cs =>
    match cs.toList with
    | [.int .i64 a, .int .i64 b, .bool g, .int .i64 s, .bool n] => some (useD ⟨a, b, g, s, n⟩, [])
    | _ => none
  | _ => none
theorem useElem_mk (u : Use) : useElem u.agg = some (useD u, []) := rfl
theorem useElem_inv {v : Value} {y : DataW Unit × List MemPlace} (h : useElem v = some y) : ∃ u : Use, v = u.agg := by
  unfold useElem at h
  split at h
  · rename_i cs
    split at h
    · rename_i a b g s n e
      refine ⟨⟨a, b, g, s, n⟩, ?_⟩
      have e2 : cs = #[.int .i64 a, .int .i64 b, .bool g, .int .i64 s, .bool n] := by rw [← Array.toArray_toList (xs := cs), e]
      rw [e2]; rfl
    · cases h
  · cases h
theorem useD_inj {x y : Use} (h : useD x = useD y) : x = y := by
  obtain ⟨a, b, g, s, n⟩ := x
  obtain ⟨a', b', g', s', n'⟩ := y
  simp only [useD, DataW.agg.injEq, List.cons.injEq, DataW.lit.injEq, Lit.bool.injEq, Lit.int.injEq, true_and, and_true] at h
  obtain ⟨rfl, rfl, rfl, rfl, rfl⟩ := h
  rfl
/-- A map that holds the uses of these symbols' names, and no others. -/
def UseMap (w : World) (b cnt : Nat) (P : List It) : Prop := ∃ D : DataW Unit, w.ownsMap Try.prog 9 useElem b cnt D ∧ (∀ s, Maps.has D (klS s) = memS (namesP P) s) ∧ ∀ s, s ∈ namesP P → ∀ z, D.atKey (klS s) z = useD (useOf s P)
section
variable {w w' : World} {b cnt : Nat} {P : List It}
theorem UseMap.lt (h : UseMap w b cnt P) : b < w.heap.size := by
  obtain ⟨D, h1, _⟩ := h
  exact h1.lt
theorem UseMap.new (w : World) : UseMap (w.alloc (.map #[] 0)) w.heap.size 0 [] :=
  ⟨.map [], World.ownsMap_made w Try.prog 9 _, fun s => by simp [Maps.has, memS, namesP], fun s hs => absurd hs (by simp [namesP])⟩
theorem UseMap.kept {row : Option Nat} (h : UseMap w b cnt P) (hg : w.grownBy w' row) (hne : some b ≠ row) : UseMap w' b cnt P := by
  obtain ⟨D, h1, h2, h3⟩ := h
  exact ⟨D, h1.kept hg hne, h2, h3⟩
theorem UseMap.more {c : Nat} (h : UseMap w b cnt P) (hc : cnt ≤ c) : UseMap w b c P := by
  obtain ⟨D, h1, h2⟩ := h
  exact ⟨D, h1.mono hc, h2⟩
/-- What the symbols do with a name. -/
theorem UseMap.look (h : UseMap w b cnt P) {s : ByteArray} (hs : s.size ≤ maxLen) : (Instr.lookup 63 (.map (some b)) (.string s) false).run Try.prog w = .ok (useOf s P).agg w := by
  obtain ⟨D, h1, h2, h3⟩ := h
  obtain ⟨v, ps, hrun, hv⟩ := h1.lookup Try.law_str Try.underlying63 (z := Use.zero.agg) (by kernel_rfl) (useElem_mk _) (klS_of hs)
  rw [hrun]
  have e : D.atKey (klS s) (useD Use.zero) = useD (useOf s P) := by
    by_cases hm : s ∈ namesP P
    · exact h3 s hm _
    · rw [atKey_of_not_has (by rw [h2 s, memS_not hm]), useOf_none P hm]
  rw [e] at hv
  obtain ⟨u, rfl⟩ := useElem_inv hv
  rw [useElem_mk] at hv
  have e2 := useD_inj (congrArg Prod.fst (Option.some.inj hv))
  rw [e2]
theorem namesP_snoc (P : List It) (x : It) : namesP (P ++ [x]) = namesP P ++ [x.m.name] := by unfold namesP; rw [List.map_append]; rfl
/-- One symbol more. -/
theorem UseMap.put (h : UseMap w b cnt P) {x : It} (hs : x.m.name.size ≤ maxLen) (hc : cnt < maxLen) : ∃ w', (Instr.mapUpdate 63 (.map (some b)) (.string x.m.name) ((useOf x.m.name P).step x.m x.i x.j).agg).run Try.prog w = .ok () w' ∧ UseMap w' b (cnt + 1) (P ++ [x]) ∧ w.grownBy w' (some b) := by
  obtain ⟨D, h1, h2, h3⟩ := h
  obtain ⟨w', hrun, ho, hg⟩ := h1.update Try.law_str Try.underlying63 hc (klS_of hs) (val := ((useOf x.m.name P).step x.m x.i x.j).agg) (d := useD ((useOf x.m.name P).step x.m x.i x.j)) (ps := []) (useElem_mk _)
  refine ⟨w', hrun, ⟨_, ho, fun t => ?_, fun t ht z => ?_⟩, hg⟩
  · rw [namesP_snoc]
    by_cases e : t = x.m.name
    · subst e; rw [has_put_same h1.isMap (klS_key _)]; simp [memS]
    · rw [has_put_other (klS_ne e), h2 t]; simp [memS, show ¬ x.m.name = t from fun q => e q.symm]
  · rw [useOf_snoc]
    by_cases e : t = x.m.name
    · subst e; rw [atKey_put_same h1.isMap (klS_key _), if_pos rfl]
    · rw [if_neg (fun q => e q.symm), atKey_put_other (klS_ne e)]
      rw [namesP_snoc, List.mem_append, List.mem_singleton] at ht
      exact h3 t (ht.resolve_right e) z
end
theorem low_own {a b c : World} {g : Nat} (h : Below a.heap.size a b) (k : b.grownBy c (some g)) : a.grownBy c (some g) :=
  ⟨k.os.trans h.os, k.tape.trans h.tape, k.output.trans h.output, Nat.le_trans h.size k.size, fun i hi hn => (k.block i (Nat.lt_of_lt_of_le hi h.size) hn).trans (h.block i hi)⟩
/-- Around one symbol more. -/
structure JU (W0 : World) (b cnt qs : Nat) (P : List It) (x : It) (k : Nat) (Z : World) (vals : Nat → Value) : Prop where
  low : k ≤ 1 → Below W0.heap.size W0 Z
  sym : Has Z qs 37 #[.string x.m.name, .int .i64 x.m.bind, .int .i64 x.m.loc, .int .i64 x.m.value]
  val : k = 1 → vals 0 = ((useOf x.m.name P).step x.m x.i x.j).agg
  done : k = 2 → UseMap Z b (cnt + 1) (P ++ [x]) ∧ W0.grownBy Z (some b)
set_option maxRecDepth 100000 in
set_option maxHeartbeats 4000000 in
theorem nameUses_any (w : World) (B : Nat) (a : Option Addr) (c n : Nat) (L : List Oj) (hn : n = L.length) (h : Objs w B a L) (hB : B ≤ w.heap.size) (hlen : n ≤ 4) (hf : ∀ y ∈ L, y.ms.length ≤ 12 ∧ ∀ x ∈ y.ms, x.name.size ≤ maxLen) :
    Calls Try.prog 45 #[.slice a n c] w fun e w' => ∃ b, e = .returned (.map (some b)) ∧ w.heap.size ≤ b ∧ UseMap w' b 48 (itemsUp (L.map Oj.ms) n) ∧ Below w.heap.size w w' := by
  have HN := hidden hn
  have H1 := hidden h
  have HF := hidden hf
  have HM0 := hidden (UseMap.new w)
  have HB0 : Hid (Below w.heap.size w (w.alloc (.map #[] 0))) := (Below.refl _ _).alloc (Nat.le_refl _) _
  have hmm := @run_makeMap Try.prog
  clear hn h hf
  go_enter Try.func45, Try.ntmps45
  go_wp2_with fail
  go_loopw [11] (fun kv wr => ∃ (k : Nat) (P : List It), kv = .int .i64 k ∧ k ≤ n ∧ Hid (P = itemsUp (L.map Oj.ms) k) ∧ P.length ≤ 12 * k ∧ Hid (UseMap wr w.heap.size P.length P) ∧ Hid (Below w.heap.size w wr)) (fun kv _ => n - (intOf kv).toNat)
  case atStart => exact ⟨0, [], rfl, Nat.zero_le _, hidden rfl, by simp, HM0, HB0⟩
  case round =>
    clear hmm
    obtain ⟨k, P, rfl, hk, hP, hPl, hmap, hb⟩ := hrel
    clear HM0 HB0
    by_cases hlt : k < n
    · have hi : (k : Int) < (n : Int) := by omega
      have hkl : k < L.length := by rw [← HN.out]; exact hlt
      obtain ⟨y, hy⟩ : ∃ y, L[k] = y := ⟨_, rfl⟩
      have hy2 : L[k]? = some y := by rw [List.getElem?_eq_getElem hkl, hy]
      have hym : y ∈ L := List.mem_of_getElem? hy2
      obtain ⟨hm1, hxs⟩ := HF.out y hym
      obtain ⟨m, hm⟩ : ∃ q, y.ms.length = q := ⟨_, rfl⟩
      obtain ⟨m0, hm0⟩ : ∃ q, y.l.length = q := ⟨_, rfl⟩
      rw [hm] at hm1
      have HLK : Hid ((L.map Oj.ms)[k]? = some y.ms) := by show _ = _; rw [List.getElem?_map, hy2]; rfl
      have HX : Hid (∀ W, Below w.heap.size w W → Syms W B y.a2 y.ms) := fun W hW => (H1.out.below (hW.mono hB)).syms y hym
      obtain ⟨b1, o1, rfl, _, p0, p1⟩ := (H1.out.below (hb.out.mono hB)).at_ hkl
      rw [hy] at p0 p1
      rw [hm0] at p0
      rw [hm] at p1
      have HM := hidden hm
      have HXS := hidden hxs
      have HP0 : Hid (P = itemsAt (L.map Oj.ms) k 0) := by show _ = _; rw [itemsAt_zero]; exact hP.out
      have hba : Below wr.heap.size wr (wr.alloc (.cells #[.slice y.a1 m0 y.c1, .slice y.a2 m y.c2] 26)) := (Below.refl _ _).alloc (Nat.le_refl _) _
      have hO : Has (wr.alloc (.cells #[.slice y.a1 m0 y.c1, .slice y.a2 m y.c2] 26)) wr.heap.size 26 #[.slice y.a1 m0 y.c1, .slice y.a2 m y.c2] := Has.new _ _ _
      obtain ⟨W1, hW1⟩ : ∃ q, wr.alloc (.cells #[.slice y.a1 m0 y.c1, .slice y.a2 m y.c2] 26) = q := ⟨_, rfl⟩
      obtain ⟨qo, hqo⟩ : ∃ q, wr.heap.size = q := ⟨_, rfl⟩
      rw [hW1] at hba hO
      rw [hqo] at hO
      have HW1 := hidden hW1
      have HQO := hidden hqo
      have HMP := hidden (hmap.out.kept (grown_below hba) (by simp))
      have HB1 := hidden (hb.out.trans (hba.mono hb.out.size))
      have z1 : W1.cell? ⟨qo, 1, none⟩ = some (.slice y.a2 m y.c2) := hO.cell 1
      clear hy hy2 hym hkl hP hm hm0 hxs hmap hb hba hO hW1 hqo
      go_upto_region 5 with fail
      rw [HW1.out, HQO.out]
      clear HW1 HQO p0 p1
      go_wp2_with fail
      clear hi z1
      go_loopw [19] (fun jv wr => ∃ (j : Nat) (P : List It), jv = .int .i64 j ∧ j ≤ m ∧ Hid (P = itemsAt (L.map Oj.ms) k j) ∧ P.length ≤ 12 * k + j ∧ Hid (UseMap wr w.heap.size P.length P) ∧ Hid (Below w.heap.size w wr)) (fun jv _ => m - (intOf jv).toNat)
      case atStart => exact ⟨0, P, rfl, Nat.zero_le _, HP0, by omega, HMP, HB1⟩
      case round =>
        clear hPl HP0 HMP HB1
        obtain ⟨j, P, rfl, hj, hP, hPl, hmap, hb⟩ := hrel
        by_cases hltj : j < m
        · have hij : (j : Int) < (m : Int) := by omega
          have hjl : j < y.ms.length := by rw [HM.out]; exact hltj
          obtain ⟨b2, o2, ea2, _, p2, p3, p4, p5⟩ := (HX.out wr hb.out).at_ hjl
          rw [ea2]
          obtain ⟨x, hx⟩ : ∃ x, y.ms[j] = x := ⟨_, rfl⟩
          have hx2 : y.ms[j]? = some x := by rw [List.getElem?_eq_getElem hjl, hx]
          have hxn := HXS.out x (List.mem_of_getElem? hx2)
          rw [hx] at p2 p3 p4 p5
          have HPN : Hid (P ++ [⟨k, j, x⟩] = itemsAt (L.map Oj.ms) k (j + 1)) := by show _ = _; rw [itemsAt_next HLK.out hx2, ← hP.out]
          obtain ⟨xn, xb, xl, xv⟩ := x
          simp only at p2 p3 p4 p5 hxn
          have hba : Below wr.heap.size wr (wr.alloc (.cells #[.string xn, .int .i64 xb, .int .i64 xl, .int .i64 xv] 37)) := (Below.refl _ _).alloc (Nat.le_refl _) _
          have hSA : Has (wr.alloc (.cells #[.string xn, .int .i64 xb, .int .i64 xl, .int .i64 xv] 37)) wr.heap.size 37 #[.string xn, .int .i64 xb, .int .i64 xl, .int .i64 xv] := Has.new _ _ _
          have hmp := hmap.out.kept (grown_below hba) (by simp)
          have hbb := hb.out.trans (hba.mono hb.out.size)
          obtain ⟨Wa, hWa⟩ : ∃ q, wr.alloc (.cells #[.string xn, .int .i64 xb, .int .i64 xl, .int .i64 xv] 37) = q := ⟨_, rfl⟩
          obtain ⟨qs, hqs⟩ : ∃ q, wr.heap.size = q := ⟨_, rfl⟩
          have hqb : w.heap.size ≠ qs := by have := hmap.out.lt; omega
          rw [hWa] at hSA hmp hbb
          rw [hqs] at hSA
          have HWA := hidden hWa
          have HQS := hidden hqs
          have HSA := hidden hSA
          have HMP := hidden hmp
          have HBB := hidden hbb
          clear hjl hx hx2 ea2 hWa hqs hSA hmp hbb hba hmap hb hP
          go_upto_region 8 with fail
          rw [HWA.out, HQS.out]
          clear HWA HQS p2 p3 p4 p5
          refine wp_region_free (m := 2) (js := [.quiet (.map (some w.heap.size)) 0 2, .quiet (.pointer (some ⟨qs, 0, none⟩)) 0 2, .quiet (.string xn) 0 2, .quiet (.map (some w.heap.size)) 0 2, .quiet (.pointer (some ⟨qs, 0, none⟩)) 0 2, .quiet (.string xn) 0 2, .quiet (useOf xn P).agg 0 0, .quiet (.agg #[.string xn, .int .i64 xb, .int .i64 xl, .int .i64 xv]) 0 2, .quiet (.int .i64 (k : Int)) 0 2, .quiet (.int .i64 (j : Int)) 0 2, .quiet (.agg #[.int .i64 (k : Int), .int .i64 (j : Int)]) 0 2, .chain 0 false, .chain 1 false]) (by kernel_rfl) (fun kk _ Z vals => JU Wa w.heap.size P.length qs P ⟨k, j, ⟨xn, xb, xl, xv⟩⟩ kk Z vals) (by kernel_rfl) (by kernel_rfl) ⟨fun _ => undef, ⟨fun _ => (Below.refl _ _).drew, HSA.out.drew, (fun e => by cases e), (fun e => by cases e)⟩⟩ (fun vals => ?_) ?_
          · show SeqX _ _ _ _ _ _ _
            refine ⟨fun kk hlo hhi ff W hW => ?_, ?_⟩
            · unfold Oper.wp
              simp [go_sem]
              try exact ⟨_, rfl, rfl⟩
            simp only [Act.put, JobX.val, List.setIfInBounds_toArray, List.set_cons_succ, List.set_cons_zero]
            refine ⟨fun kk hlo hhi ff W hW => ?_, ?_⟩
            · unfold Oper.wp
              simp [go_sem]
              try exact ⟨_, rfl, rfl⟩
            simp only [Act.put, JobX.val, List.setIfInBounds_toArray, List.set_cons_succ, List.set_cons_zero]
            refine ⟨fun kk hlo hhi ff W hW => ?_, ?_⟩
            · have q0 : W.cell? ⟨qs, 0, none⟩ = some (.string xn) := hW.sym.cell 0
              unfold Oper.wp
              simp [go_sem, q0]
              try exact ⟨_, rfl, rfl⟩
            simp only [Act.put, JobX.val, List.setIfInBounds_toArray, List.set_cons_succ, List.set_cons_zero]
            refine ⟨fun kk hlo hhi ff W hW => ?_, ?_⟩
            · unfold Oper.wp
              simp [go_sem]
              try exact ⟨_, rfl, rfl⟩
            simp only [Act.put, JobX.val, List.setIfInBounds_toArray, List.set_cons_succ, List.set_cons_zero]
            refine ⟨fun kk hlo hhi ff W hW => ?_, ?_⟩
            · unfold Oper.wp
              simp [go_sem]
              try exact ⟨_, rfl, rfl⟩
            simp only [Act.put, JobX.val, List.setIfInBounds_toArray, List.set_cons_succ, List.set_cons_zero]
            refine ⟨fun kk hlo hhi ff W hW => ?_, ?_⟩
            · have q0 : W.cell? ⟨qs, 0, none⟩ = some (.string xn) := hW.sym.cell 0
              unfold Oper.wp
              simp [go_sem, q0]
              try exact ⟨_, rfl, rfl⟩
            simp only [Act.put, JobX.val, List.setIfInBounds_toArray, List.set_cons_succ, List.set_cons_zero]
            refine ⟨fun kk hlo hhi ff W hW => ?_, ?_⟩
            · have hl := (HMP.out.kept (grown_below (hW.low (by omega))) (by simp)).look hxn
              unfold Oper.wp
              simp [go_sem, hl]
              try exact ⟨_, rfl, rfl⟩
            simp only [Act.put, JobX.val, List.setIfInBounds_toArray, List.set_cons_succ, List.set_cons_zero]
            refine ⟨fun kk hlo hhi ff W hW => ?_, ?_⟩
            · have q0 : W.cell? ⟨qs, 0, none⟩ = some (.string xn) := hW.sym.cell 0
              have q1 : W.cell? ⟨qs, 1, none⟩ = some (.int .i64 xb) := hW.sym.cell 1
              have q2 : W.cell? ⟨qs, 2, none⟩ = some (.int .i64 xl) := hW.sym.cell 2
              have q3 : W.cell? ⟨qs, 3, none⟩ = some (.int .i64 xv) := hW.sym.cell 3
              unfold Oper.wp
              simp [go_sem, q0, q1, q2, q3]
              try exact ⟨_, rfl, rfl⟩
            simp only [Act.put, JobX.val, List.setIfInBounds_toArray, List.set_cons_succ, List.set_cons_zero]
            refine ⟨fun kk hlo hhi ff W hW => ?_, ?_⟩
            · unfold Oper.wp
              simp [go_sem]
              try exact ⟨_, rfl, rfl⟩
            simp only [Act.put, JobX.val, List.setIfInBounds_toArray, List.set_cons_succ, List.set_cons_zero]
            refine ⟨fun kk hlo hhi ff W hW => ?_, ?_⟩
            · unfold Oper.wp
              simp [go_sem]
              try exact ⟨_, rfl, rfl⟩
            simp only [Act.put, JobX.val, List.setIfInBounds_toArray, List.set_cons_succ, List.set_cons_zero]
            refine ⟨fun kk hlo hhi ff W hW => ?_, ?_⟩
            · unfold Oper.wp
              simp [go_sem]
              try exact ⟨_, rfl, rfl⟩
            simp only [Act.put, JobX.val, List.setIfInBounds_toArray, List.set_cons_succ, List.set_cons_zero]
            refine ⟨fun ff W hwt hW => ?_, ?_⟩
            · have hst := strong_le xn P
              have hu := useWith_any W (useOf xn P) ⟨xn, xb, xl, xv⟩ (k : Int) (j : Int) hst.1 (by omega)
              unfold Oper.wp
              simp [go_sem]
              refine hu.mono ?_
              rintro e w' ⟨rfl, hbs⟩
              have hN : JU Wa w.heap.size P.length qs P ⟨k, j, ⟨xn, xb, xl, xv⟩⟩ 1 w' (upd vals 0 (((useOf xn P).step ⟨xn, xb, xl, xv⟩ k j).agg)) :=
                ⟨fun _ => (hW.low (by decide)).trans (hbs.mono (hW.low (by decide)).size), hW.sym.below hbs hW.sym.lt, fun _ => rfl, (fun e => by cases e)⟩
              first | exact hN | exact ⟨_, rfl, hN⟩
            simp only [Act.put, JobX.val, List.setIfInBounds_toArray, List.set_cons_succ, List.set_cons_zero]
            refine ⟨fun ff W hwt hW => ?_, ?_⟩
            · have hv := hW.val rfl
              have hlow := hW.low (by decide)
              obtain ⟨w', hrun, hm2, hg2⟩ := (HMP.out.kept (grown_below hlow) (by simp)).put (x := ⟨k, j, ⟨xn, xb, xl, xv⟩⟩) hxn (by unfold maxLen; omega)
              simp only at hrun hv
              have hN : ∀ q, JU Wa w.heap.size P.length qs P ⟨k, j, ⟨xn, xb, xl, xv⟩⟩ 2 w' (upd vals 1 q) := fun q =>
                ⟨(fun e => absurd e (by decide)), hW.sym.grown hg2 (by intro e; injection e with e; exact hqb e.symm), (fun e => by cases e), fun _ => ⟨hm2, low_own hlow hg2⟩⟩
              rw [hv]
              unfold Oper.wp
              simp [go_sem, hrun]
              first | exact hN _ | exact ⟨undef, hN _⟩ | exact ⟨_, rfl, hN _⟩
            exact trivial
          · intro ff W9 vals hff hJ
            obtain ⟨hm9, hg9⟩ := hJ.done rfl
            have HM9 := hidden hm9
            have HB9 := hidden (HBB.out.grown hg9 HBB.out.size (by intro q hq; injection hq with hq; omega))
            simp only [putAll, List.map_cons, List.map_nil, JobX.val, Act.put, List.setIfInBounds_toArray, List.set_cons_succ, List.set_cons_zero]
            clear hm9 hg9 hJ HMP HBB HSA hff hqb hxn
            go_wp2_with fail
            go_roundw
            case rel => exact ⟨j + 1, P ++ [⟨k, j, ⟨xn, xb, xl, xv⟩⟩], by go_num, by omega, HPN, by rw [List.length_append, List.length_singleton]; omega, by rw [List.length_append, List.length_singleton]; exact HM9, HB9⟩
            case measure => simp [intOf]; omega
        · have hij : ¬ (j : Int) < (m : Int) := by omega
          have HPU : Hid (P = itemsUp (L.map Oj.ms) (k + 1)) := by
            show _ = _
            rw [hP.out]; exact itemsAt_all HLK.out (by rw [HM.out]; omega)
          clear hP
          go_wp2_with fail
          go_roundw
          case rel => exact ⟨k + 1, P, by go_num, by omega, HPU, by omega, hmap, hb⟩
          case measure => simp [intOf]; omega
    · have hi : ¬ (k : Int) < (n : Int) := by omega
      have hkn : k = n := by omega
      subst hkn
      have HFIN : Hid (UseMap wr w.heap.size 48 (itemsUp (L.map Oj.ms) k)) := by
        show UseMap _ _ _ _
        rw [← hP.out]; exact hmap.out.more (by omega)
      clear hP hmap
      go_wp2_with fail
      go_ret
      exact ⟨w.heap.size, rfl, Nat.le_refl _, HFIN.out, hb.out⟩

end Go.Proofs.Ytjakkiidedmifaa

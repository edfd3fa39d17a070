/-
  impl.dumpBuilder: numbers and the ends of lines.
-/
import Derived.Test.YtdmdjlnpbmiadaaDoorDmpI
namespace Go.Proofs.YtdmdjlnpbmiadaaDoor
open Go.RowKit

theorem itoa_any (W : World) (h : Tabs W) (x : Int) (hx : I64 x) : Calls Tryd.prog 58 #[.int .i64 x] W fun e w' => e = .returned (.string (numT x)) ∧ Below W.heap.size W w' := by
  refine (Tryd.strconv_Itoa x hx.1 hx.2 W h.pow).mono ?_
  rintro e w' ⟨rfl, k, os, rfl⟩
  exact ⟨by rw [itoa_num], grow_below W k os⟩
set_option maxRecDepth 100000 in
set_option maxHeartbeats 2000000 in
theorem putNumbers_any (W : World) (B p : Nat) (S : List ByteArray) (L : List Int) (cs0 : Array Value) (h : DB W B p S L cs0) (g n c : Nat) (ns : List Int) (hn : n = ns.length) (hg : Has W g 3 (ns.map (Value.int .i64)).toArray) (hx : ∀ x ∈ ns, I64 x) (hlen : L.length + 22 * n ≤ 1000000000) (hnb : n ≤ 1000000) :
    Calls Tryd.prog 38 #[.pointer (some ⟨p, 0, none⟩), .slice (some ⟨g, 0, none⟩) n c] W fun e w' => e = .returned (.tuple #[]) ∧ DBW W B p S (joinW L (ns.map numT)) w' := by
  have HD := hidden h
  have HN := hidden hn
  have HG := hidden hg
  have HX := hidden hx
  have HLEN := hidden hlen
  have HGP : Hid (g ≠ p) := hg.differ h.sb.has (by decide)
  have hlw : ∀ k, lenW ((ns.take k).map numT) ≤ 22 * k := by
    intro k
    induction k with
    | zero => simp [lenW]
    | succ k ih =>
      rcases Nat.lt_or_ge k ns.length with h1 | h1
      · rw [List.take_add_one, List.getElem?_eq_getElem h1, List.map_append, lenW_append]
        have := numT_size' (hx _ (List.getElem_mem h1))
        simp only [Option.toList_some, List.map_cons, List.map_nil, lenW]
        omega
      · rw [List.take_of_length_le (by omega)] at ih ⊢
        omega
  have HLW := hidden hlw
  clear h hg hlen hn hx hlw
  go_enter Tryd.func38, Tryd.ntmps38
  go_wp2_with fail
  go_loopw [8] (fun i wr => ∃ k : Nat, i = .int .i64 k ∧ k ≤ n ∧ Hid (DBW W B p S (joinW L ((ns.take k).map numT)) wr)) (fun i _ => n - (intOf i).toNat)
  case atStart => exact ⟨0, rfl, Nat.zero_le _, ⟨⟨cs0, HD.out⟩, Below.refl _ _, fun _ _ _ _ _ _ h => h⟩⟩
  case round =>
    obtain ⟨k, rfl, hk, hs⟩ := hrel
    by_cases hlt : k < n
    · have hi : (k : Int) < (n : Int) := by omega
      have hkl : k < ns.length := by rw [← HN.out]; exact hlt
      obtain ⟨x, hx1⟩ : ∃ x, ns[k]? = some x := ⟨_, List.getElem?_eq_getElem hkl⟩
      have hgr : Has wr g 3 (ns.map (Value.int .i64)).toArray := hs.out.kept g _ _ (by decide) (by decide) HGP.out HG.out
      have hc : wr.cell? ⟨g, k, none⟩ = some (.int .i64 x) := by rw [hgr.cell k]; simp [hx1]
      have hxi : I64 x := HX.out x (List.mem_of_getElem? hx1)
      obtain ⟨cs, hdb⟩ := hs.out.db
      have HIT := hidden (itoa_any wr hdb.tabs x hxi)
      have HDB := hidden hdb
      have HSN : Hid (joinW L ((ns.take (k + 1)).map numT) = joinW (joinW L ((ns.take k).map numT)) [numT x]) := by
        show _ = _
        rw [List.take_add_one, hx1, List.map_append]
        unfold joinW
        rw [List.foldl_append]
        rfl
      have hb1 := joinW_length ((ns.take k).map numT) L
      have hb2 := HLW.out k
      obtain ⟨M, hM⟩ : ∃ M, joinW L ((ns.take k).map numT) = M := ⟨_, rfl⟩
      rw [hM] at hs HSN hb1 HDB
      have hsz := numT_size' hxi
      obtain ⟨tx, htx⟩ : ∃ t, numT x = t := ⟨_, rfl⟩
      rw [htx] at HIT HSN hsz
      have HLM : Hid (M.length + lenW [tx] ≤ 1000000000) := by show _ ≤ _; have := HLEN.out; simp only [lenW]; omega
      clear hx1 hgr hb1 hb2 hM hkl hxi hdb htx hsz
      go_wp2_with fail
      refine HIT.out.mono ?_
      rintro e w2 ⟨rfl, hb⟩
      have HD2 := hidden (HDB.out.only hb)
      have HW2 := hidden (DBW.only HDB.out hb)
      have HD3 := hidden (HD2.out.only ((Below.refl _ _).alloc (Nat.le_refl _) (.cells #[.string tx] 9)))
      have HW3 := hidden (DBW.only HD2.out ((Below.refl _ _).alloc (Nat.le_refl _) (.cells #[.string tx] 9)))
      have HPW := hidden (putWords_any (w2.alloc (.cells #[.string tx] 9)) B p S M cs HD3.out w2.heap.size 1 1 [tx] rfl (Has.new _ _ _) HLM.out (by omega))
      have HWW := hidden (hs.out.trans (HW2.out.trans HW3.out))
      clear hb HIT HDB HD2 HD3 HW2 HW3 hs hc
      go_wp2_with fail
      refine HPW.out.mono ?_
      rintro e w3 ⟨rfl, hw⟩
      have HS3 : Hid (DBW W B p S (joinW L ((ns.take (k + 1)).map numT)) w3) := by show DBW _ _ _ _ _ _; rw [HSN.out]; exact HWW.out.trans hw
      clear HPW hw HWW HSN
      go_wp2_with fail
      go_roundw
      case rel => exact ⟨k + 1, by go_num, by omega, HS3⟩
      case measure => simp [intOf]; omega
    · have hi : ¬ (k : Int) < (n : Int) := by omega
      have HF : Hid (DBW W B p S (joinW L (ns.map numT)) wr) := by
        have := hs.out
        rwa [List.take_of_length_le (by rw [← HN.out]; omega)] at this
      clear hs
      go_wp2_with fail
      go_end0
      exact ⟨rfl, HF.out⟩
/-- Around the end of a line: the text, a list with it, the row, the builder. -/
structure JE (w0 : World) (B p : Nat) (cs : Array Value) (L : List Int) (v : Value) (N : Nat) (xs : List Value) (line : ByteArray) (k : Nat) (W : World) (vals : Nat → Value) : Prop where
  low : B ≤ W.heap.size
  below : Below B w0 W
  kept : ∀ q T' c, T' ≠ 5 → T' ≠ 9 → q ≠ p → Has w0 q T' c → Has W q T' c
  start : k = 0 → Sb W B p 1 59 cs L
  has : k ≤ 3 → Has W p 59 cs
  text : 1 ≤ k → vals 0 = .string line
  row : k ≤ 2 → W.ownsRow B 9 1 v N xs
  arr : k = 2 → ∃ q, vals 1 = .slice (some ⟨q, 0, none⟩) 1 1 ∧ Has W q 9 #[.string line]
  app : k = 3 → W.ownsRow B 9 1 (vals 2) (N + 1) (xs ++ [.string line])
  fin : k = 4 → ∃ v', Has W p 59 (cs.setIfInBounds 0 v') ∧ W.ownsRow B 9 1 v' (N + 1) (xs ++ [.string line])
theorem own_slice {W : World} {B : Nat} {T : TypeId} {s : Nat} {v : Value} {n : Nat} {xs : List Value} (h : W.ownsRow B T s v n xs) : ∃ a c, v = .slice a n c := by
  rcases h.2 with ⟨rfl, h0⟩ | ⟨g, cap, cur, e, _⟩
  · exact ⟨none, 0, by rw [h0]⟩
  · exact ⟨_, _, e⟩
set_option maxRecDepth 100000 in
set_option maxHeartbeats 4000000 in
theorem endLine_any (W : World) (B p : Nat) (S : List ByteArray) (L : List Int) (cs : Array Value) (h : DB W B p S L cs) (hS : S.length ≤ 1000000) :
    Calls Tryd.prog 41 #[.pointer (some ⟨p, 0, none⟩)] W fun e w' => e = .returned (.tuple #[]) ∧ DBW W B p (S ++ [strOfNums L]) [] w' := by
  obtain ⟨i0, hi0, hz0, hz1, hz2⟩ := info_parts Tryd.info_str
  obtain ⟨v, hv0, hrow⟩ := h.row
  obtain ⟨a, c, rfl⟩ := own_slice hrow
  obtain ⟨N, hN⟩ : ∃ N, S.length = N := ⟨_, rfl⟩
  obtain ⟨xs, hxs⟩ : ∃ xs, S.map Value.string = xs := ⟨_, rfl⟩
  obtain ⟨line, hline⟩ : ∃ t, strOfNums L = t := ⟨_, rfl⟩
  rw [hN] at hrow hv0 hS
  rw [hxs] at hrow
  have hsb := h.sb
  have hdr : Below W.heap.size W W.drew := ⟨rfl, rfl, rfl, Nat.le_refl _, fun _ _ => rfl⟩
  have hJ0 : Hid (JE W B p cs L (.slice a N c) N xs line 0 W.drew fun _ => undef) := ⟨hsb.size, hdr.mono hsb.size, fun _ _ _ _ _ _ h => h, fun _ => hsb.only hdr, fun _ => hsb.has, fun h => absurd h (by decide), fun _ => own_same hrow fun _ _ h => h, fun h => absurd h (by decide), fun h => absurd h (by decide), fun h => absurd h (by decide)⟩
  have HV0 := hidden hv0
  have HH := hidden h
  have HNX := hidden (And.intro hN (And.intro hxs hline))
  have HBS : Hid (∀ W' : World, Sb W' B p 1 59 cs L → Calls Tryd.prog 60 #[.pointer (some ⟨p, 1, none⟩)] W' fun e w' => e = .returned (.string line) ∧ SbF W' B w') := fun W' hw => by
    have := builderString_any W' B p 1 _ cs L hw
    rwa [hline] at this
  have HHS : Hid (∀ W' v', Has W' p 59 (cs.setIfInBounds 0 v') → Calls Tryd.prog 61 #[.pointer (some ⟨p, 1, none⟩)] W' fun e w' => e = .returned (.tuple #[]) ∧ ∃ cs', SbW W' B p 1 59 (cs.setIfInBounds 0 v') [] w' cs') := fun W' v' hw => builderReset_any W' B p 1 _ _ hw hsb.base (by rw [Array.size_setIfInBounds, h.size]; decide) (by rw [Array.size_setIfInBounds]; exact hsb.lies) (by decide)
  rw [hline]
  clear h hv0 hrow hN hxs hline hsb hdr
  go_enter Tryd.func41, Tryd.ntmps41
  go_upto_region 0 with fail
  refine wp_region_chain (m := 4) (js := [.quiet (.pointer (some ⟨p, 0, none⟩)) 4, .quiet (.pointer (some ⟨p, 0, none⟩)) 4, .quiet (.pointer (some ⟨p, 0, none⟩)) 4, .quiet (.pointer (some ⟨p, 0, none⟩)) 4, .quiet (.slice a N c) 2, .quiet (.pointer (some ⟨p, 0, none⟩)) 4, .quiet (.pointer (some ⟨p, 0, none⟩)) 4, .quiet (.pointer (some ⟨p, 1, none⟩)) 4, .chain 0, .chain 1, .chain 2, .quiet (.pointer (some ⟨p, 0, none⟩)) 4, .quiet (.pointer (some ⟨p, 0, none⟩)) 4, .chain 3]) (by kernel_rfl) (JE W B p cs L (.slice a N c) N xs line) (by kernel_rfl) (by kernel_rfl) ⟨_, hJ0.out⟩ (fun vals => ?_) ?_
  · show SeqW _ _ _ _ _ _ _
    refine ⟨fun k hk W hW => ?_, ?_⟩
    · unfold Oper.wp
      simp [go_sem]
      try exact ⟨_, rfl, rfl⟩
    simp only [Act.put, List.setIfInBounds_toArray, List.set_cons_succ, List.set_cons_zero]
    refine ⟨fun k hk W hW => ?_, ?_⟩
    · unfold Oper.wp
      simp [go_sem]
      try exact ⟨_, rfl, rfl⟩
    simp only [Act.put, List.setIfInBounds_toArray, List.set_cons_succ, List.set_cons_zero]
    refine ⟨fun k hk W hW => ?_, ?_⟩
    · unfold Oper.wp
      simp [go_sem]
      try exact ⟨_, rfl, rfl⟩
    simp only [Act.put, List.setIfInBounds_toArray, List.set_cons_succ, List.set_cons_zero]
    refine ⟨fun k hk W hW => ?_, ?_⟩
    · unfold Oper.wp
      simp [go_sem]
      try exact ⟨_, rfl, rfl⟩
    simp only [Act.put, List.setIfInBounds_toArray, List.set_cons_succ, List.set_cons_zero]
    refine ⟨fun k hk W hW => ?_, ?_⟩
    · have q : W.cell? ⟨p, 0, none⟩ = some (.slice a N c) := ((hW.has (by omega)).cell 0).trans HV0.out
      unfold Oper.wp
      simp [go_sem, q]
      try exact ⟨_, rfl, rfl⟩
    simp only [Act.put, List.setIfInBounds_toArray, List.set_cons_succ, List.set_cons_zero]
    refine ⟨fun k hk W hW => ?_, ?_⟩
    · unfold Oper.wp
      simp [go_sem]
      try exact ⟨_, rfl, rfl⟩
    simp only [Act.put, List.setIfInBounds_toArray, List.set_cons_succ, List.set_cons_zero]
    refine ⟨fun k hk W hW => ?_, ?_⟩
    · unfold Oper.wp
      simp [go_sem]
      try exact ⟨_, rfl, rfl⟩
    simp only [Act.put, List.setIfInBounds_toArray, List.set_cons_succ, List.set_cons_zero]
    refine ⟨fun k hk W hW => ?_, ?_⟩
    · unfold Oper.wp
      simp [go_sem]
      try exact ⟨_, rfl, rfl⟩
    simp only [Act.put, List.setIfInBounds_toArray, List.set_cons_succ, List.set_cons_zero]
    refine ⟨fun W' hW => ?_, ?_⟩
    · unfold Oper.wp
      simp [go_sem]
      refine (HBS.out W' (hW.start rfl)).mono ?_
      rintro e w' ⟨rfl, hf⟩
      have hN : JE W B p cs L (.slice a N c) N xs line 1 w' (upd vals 0 (.string line)) := ⟨Nat.le_trans hW.low hf.below.size, hW.below.trans hf.below, fun q T' c h1 h2 h3 h4 => hf.kept q T' c h1 (hW.kept q T' c h1 h2 h3 h4), fun h => absurd h (by decide), fun _ => hf.kept p _ _ (by decide) (hW.has (by decide)), fun _ => rfl, fun _ => own_same (hW.row (by decide)) fun q c hh => hf.kept q _ c (by decide) hh, fun h => absurd h (by decide), fun h => absurd h (by decide), fun h => absurd h (by decide)⟩
      first | exact hN | exact ⟨_, rfl, hN⟩
    simp only [Act.put, List.setIfInBounds_toArray, List.set_cons_succ, List.set_cons_zero]
    refine ⟨fun W' hW => ?_, ?_⟩
    · have q1 := hW.text (by decide)
      have hb : Below W'.heap.size W' (W'.alloc (.cells #[.string line] 9)) := (Below.refl _ _).alloc (Nat.le_refl _) _
      have hN : JE W B p cs L (.slice a N c) N xs line 2 (W'.alloc (.cells #[.string line] 9)) (upd vals 1 (.slice (some ⟨W'.heap.size, 0, none⟩) 1 1)) := ⟨Nat.le_trans hW.low hb.size, hW.below.trans (hb.mono hW.low), fun q T' c h1 h2 h3 h4 => (hW.kept q T' c h1 h2 h3 h4).alloc _, fun h => absurd h (by decide), fun _ => (hW.has (by decide)).alloc _, fun _ => q1, fun _ => (hW.row (by decide)).alloc _, fun _ => ⟨W'.heap.size, rfl, Has.new _ _ _⟩, fun h => absurd h (by decide), fun h => absurd h (by decide)⟩
      unfold Oper.wp
      simp [go_sem, q1]
      first | exact hN | exact ⟨_, rfl, hN⟩
    simp only [Act.put, List.setIfInBounds_toArray, List.set_cons_succ, List.set_cons_zero]
    refine ⟨fun W' hW => ?_, ?_⟩
    · obtain ⟨qb, hq, hqh⟩ := hW.arr rfl
      have hro := hW.row (by decide)
      refine wp_append_own W' _ _ 27 rfl B 9 i0 (.string ⟨#[]⟩) 1 16 Tryd.underlying27 hi0 hz0 hz1 hz2 rfl (by decide) _ _ _ rfl hro ⟨qb, 0, none⟩ 1 1 [.string line] hq rfl (fun j u hu => by
        match j, hu with
        | 0, hu => simp at hu; subst hu; have := hqh.cell 0; simpa [Addr.add] using this) (by intro u hu; simp at hu; subst hu; rfl) (by unfold maxLen; omega) (by omega) hW.low (fun v' w' h1 h2 _ => ?_)
      have hne : ∀ q T' c, T' ≠ 9 → Has W' q T' c → Has w' q T' c := fun q T' c hT hh => hh.grown h2 (fun e => by
        rcases hro.2 with ⟨e0, _⟩ | ⟨gg, cap, cur, e0, _, hg, _⟩
        · rw [e0] at e; cases e
        · rw [e0] at e
          injection e with e
          subst e
          exact (hh.differ (show Has _ _ _ _ from hg) hT) rfl)
      have hN : JE W B p cs L (.slice a N c) N xs line 3 w' (upd vals 2 v') := ⟨Nat.le_trans hW.low h2.size, hW.below.trans ((Below.refl _ _).grown h2 hW.low (fun k hk => (hro.lt k hk).1)), fun q T' c h3 h4 h5 h6 => hne q T' c h4 (hW.kept q T' c h3 h4 h5 h6), fun h => absurd h (by decide), fun _ => hne p _ _ (by decide) (hW.has (by decide)), fun _ => hW.text (by decide), fun h => absurd h (by decide), fun h => absurd h (by decide), fun _ => h1, fun h => absurd h (by decide)⟩
      exact ⟨_, rfl, hN⟩
    simp only [Act.put, List.setIfInBounds_toArray, List.set_cons_succ, List.set_cons_zero]
    refine ⟨fun k hk W hW => ?_, ?_⟩
    · unfold Oper.wp
      simp [go_sem]
      try exact ⟨_, rfl, rfl⟩
    simp only [Act.put, List.setIfInBounds_toArray, List.set_cons_succ, List.set_cons_zero]
    refine ⟨fun k hk W hW => ?_, ?_⟩
    · unfold Oper.wp
      simp [go_sem]
      try exact ⟨_, rfl, rfl⟩
    simp only [Act.put, List.setIfInBounds_toArray, List.set_cons_succ, List.set_cons_zero]
    refine ⟨fun W' hW => ?_, trivial⟩
    obtain ⟨a2, c2, hv2⟩ := own_slice (hW.app rfl)
    have hh := hW.has (by decide)
    have q1 : W'.cell? ⟨p, 0, none⟩ = some (.slice a N c) := (hh.cell 0).trans HV0.out
    have q2 := hh.free 0
    have hap := hW.app rfl
    rw [hv2] at hap ⊢
    have hN : ∀ u, JE W B p cs L (.slice a N c) N xs line 4 (W'.setCell ⟨p, 0, none⟩ (.slice a2 (N + 1) c2)) (upd vals 3 u) := fun u => ⟨Nat.le_trans hW.low (by simp), hW.below.setCell (p := ⟨p, 0, none⟩) HH.out.sb.base _, fun q T' c h1 h2 h3 h4 => (hW.kept q T' c h1 h2 h3 h4).away h3 _, fun h => absurd h (by decide), fun h => absurd h (by decide), fun _ => hW.text (by decide), fun h => absurd h (by decide), fun h => absurd h (by decide), fun h => absurd h (by decide), fun _ => ⟨_, hh.put 0 _, own_same hap fun q c hq => hq.away (hq.differ hh (by decide)) _⟩⟩
    clear hW hh hap
    unfold Oper.wp
    simp [go_sem, q1, q2]
    first | exact hN _ | exact ⟨undef, hN _⟩ | exact ⟨_, rfl, hN _⟩
  · intro W1 vals hJ
    obtain ⟨v', hh, hr⟩ := hJ.fin rfl
    have HRS := hidden (HHS.out W1 v' hh)
    have HB1 := hidden hJ.below
    have HK1 := hidden hJ.kept
    have HR1 := hidden hr
    have HHH := hidden hh
    clear hJ hh hr hJ0 HBS HHS
    simp only [putAll, List.map_cons, List.map_nil, Job.val, Act.put, List.setIfInBounds_toArray, List.set_cons_succ, List.set_cons_zero]
    go_wp2_with fail
    refine HRS.out.mono ?_
    rintro e w2 ⟨rfl, cs2, hs2⟩
    obtain ⟨hN, hxs, hline⟩ := HNX.out
    have hlt0 : 0 < cs.size := by rw [HH.out.size]; decide
    have HF : Hid (DBW W B p (S ++ [line]) [] w2) := by
      refine ⟨⟨cs2, hs2.sb, by rw [hs2.size, Array.size_setIfInBounds]; exact HH.out.size, ⟨v', ?_, ?_⟩, HH.out.tabs.below (HB1.out.trans hs2.below) HH.out.low, HH.out.low⟩, HB1.out.trans hs2.below, fun q T' c h1 h2 h3 h4 => hs2.kept q T' c h1 h3 (HK1.out q T' c h1 h2 h3 h4)⟩
      · rw [hs2.rest 0 (by omega) (by omega)]
        exact Array.getElem?_setIfInBounds_self_of_lt hlt0
      · rw [List.length_append, hN, List.map_append, hxs]
        exact own_same HR1.out fun q c hq => hs2.kept q _ c (by decide) (hq.differ HHH.out (by decide)) hq
    clear hs2 HRS hN hxs hline HB1 HK1 HR1 HHH hlt0
    go_wp2_with fail
    go_end0
    exact ⟨rfl, HF.out⟩
end Go.Proofs.YtdmdjlnpbmiadaaDoor

/-
  spec.l1OwnObjectList: a copy of objects in rows of its own.
-/
import Derived.Test.YtiocchmlmcoieaaOwnS
import Derived.Test.YtiocchmlmcoieaaObsL
import Derived.Test.YtiocchmlmcoieaaLnkV
namespace Go.Proofs.Ytiocchmlmcoieaa
open Go.RowKit

/-- The cells of objects, one behind the other. -/
def flatQ (L : List Oj) : List Value := L.flatMap fun y => [.slice y.a1 y.l.length y.c1, .slice y.a2 y.ms.length y.c2]
theorem flatQ_snoc (L : List Oj) (y : Oj) : flatQ (L ++ [y]) = flatQ L ++ [.slice y.a1 y.l.length y.c1, .slice y.a2 y.ms.length y.c2] := by
  simp [flatQ]
theorem flatQ_at : ∀ (L : List Oj) (i : Nat) (y : Oj), L[i]? = some y → (flatQ L)[i * 2]? = some (.slice y.a1 y.l.length y.c1) ∧ (flatQ L)[i * 2 + 1]? = some (.slice y.a2 y.ms.length y.c2)
  | [], _, _, h => by simp at h
  | x :: r, 0, y, h => by simp at h; subst h; simp [flatQ]
  | x :: r, i + 1, y, h => by
    have ih := flatQ_at r i y (by simpa using h)
    have e : flatQ (x :: r) = .slice x.a1 x.l.length x.c1 :: .slice x.a2 x.ms.length x.c2 :: flatQ r := by simp [flatQ]
    have e1 : (i + 1) * 2 = i * 2 + 1 + 1 := by omega
    rw [e, e1]
    simpa [List.getElem?_cons_succ, Nat.add_assoc] using ih
/-- An object in rows of the call's own. -/
structure OB (W : World) (lo : Nat) (y : Oj) : Prop where
  secs : SR W lo (.slice y.a1 y.l.length y.c1) y.l
  syms : W.ownsRow lo 82 4 (.slice y.a2 y.ms.length y.c2) y.ms.length (flatM y.ms)
/-- Objects in rows of the call's own. -/
structure OBs (W : World) (lo : Nat) (v : Value) (L : List Oj) : Prop where
  row : W.ownsRow lo 29 2 v L.length (flatQ L)
  objs : ∀ y ∈ L, OB W lo y
section
variable {W W' : World} {lo : Nat} {v : Value} {L : List Oj} {y : Oj}
theorem OB.kept (h : OB W lo y) (hg : W.grownBy W' none) : OB W' lo y := ⟨h.secs.kept hg, h.syms.kept hg (Classical.em _)⟩
theorem OB.row' (h : OB W lo y) {base : Nat} {size : Nat} {u : Value} {n : Nat} {xs : List Value} (hu : W.ownsRow base 29 size u n xs) (hg : W.grownBy W' u.ownBlock) : OB W' lo y :=
  ⟨h.secs.row' hu (by decide) (by decide) (by decide) hg, h.syms.kept hg (rows_apart h.syms hu (by decide))⟩
theorem OB.lower (h : OB W lo y) {lo' : Nat} (hl : lo' ≤ lo) : OB W lo' y := ⟨h.secs.lower hl, row_lower h.syms hl⟩
theorem OBs.kept (h : OBs W lo v L) (hg : W.grownBy W' none) : OBs W' lo v L := ⟨h.row.kept hg (Classical.em _), fun y hy => (h.objs y hy).kept hg⟩
theorem OBs.only (h : OBs W lo v L) (hb : Below W.heap.size W W') : OBs W' lo v L := h.kept (grown_only hb)
theorem OBs.alloc (h : OBs W lo v L) (o : Obj) : OBs (W.alloc o) lo v L := h.only ((Below.refl _ _).alloc (Nat.le_refl _) o)
/-- One more object behind the others. -/
theorem OBs.app {v' : Value} (h : OBs W lo v L) (hy : OB W lo y) (hr : W'.ownsRow lo 29 2 v' (L.length + 1) (flatQ L ++ [.slice y.a1 y.l.length y.c1, .slice y.a2 y.ms.length y.c2])) (hg : W.grownBy W' v.ownBlock) : OBs W' lo v' (L ++ [y]) :=
  ⟨by rw [flatQ_snoc, List.length_append]; exact hr, fun z hz => by
    rcases List.mem_append.1 hz with hz | hz
    · exact (h.objs z hz).row' h.row hg
    · rw [List.mem_singleton.1 hz]; exact hy.row' h.row hg⟩
theorem OBs.all {a : Option Addr} {n c : Nat} (h : OBs W lo (.slice a n c) L) : Objs W W.heap.size a L := by
  refine ⟨fun hn => ?_, fun y hy => (h.objs y hy).secs.sects, fun y hy => syms_of_own (h.objs y hy).syms⟩
  rcases h.row.2 with ⟨_, h0⟩ | ⟨g, cap, cur, e, _, hh, _⟩
  · omega
  · have e1 := (Value.slice.inj e).1
    have e2 := (Value.slice.inj e).2.1
    have e3 := (Value.slice.inj e).2.2
    have hrow := h.row
    subst e1
    subst e2
    refine ⟨g, 0, rfl, Has.lt hh, fun i y hi => ?_⟩
    have hil := (List.getElem?_eq_some_iff.1 hi).1
    obtain ⟨f0, f1⟩ := flatQ_at L i y hi
    exact ⟨by rw [Nat.zero_add, World.ownsRow.cellAt hrow (i * 2) (by omega)]; exact f0, by rw [Nat.zero_add, World.ownsRow.cellAt hrow (i * 2 + 1) (by omega)]; exact f1⟩
end
/-- append(row, object). -/
theorem wpList_app_obj {ops : Array Oper} {rest : List Oper} {o : Oper} {a : Act} (w : World) {Q : Exit → Act → World → Prop} (hgd : o.guard = none) (s x : Operand) (ho : o.op = .call { callee := .builtin .append, args := #[s, x], argTypes := #[23, 23] })
    (base : Nat) (v : Value) (n : Nat) (xs : List Value) (hs : a.eval s = v) (hown : w.ownsRow base 29 2 v n xs) (g c : Nat) (news : List Value) (hx : a.eval x = .slice (some ⟨g, 0, none⟩) 1 c) (hl : news.length = 2) (hh : Has w g 29 news.toArray) (h1 : ∀ u ∈ news, u.oneCell' = true) (h63 : n ≤ 10000000) (hbase : base ≤ w.heap.size)
    (h : ∀ a' c' w', w'.ownsRow base 29 2 (.slice a' (n + 1) c') (n + 1) (xs ++ news) → w.grownBy w' v.ownBlock → wpList Try.prog ops Q rest (a.put o.dst (.slice a' (n + 1) c')) w') : wpList Try.prog ops Q (o :: rest) a w :=
  wpList_plain hgd fun _ hK => wp_append_row s x 23 29 ho _ 2 48 Try.info_object Try.underlying23 rfl (by decide) (by decide) base v n xs hs hown (some ⟨g, 0, none⟩) 1 c news hx (by omega) (fun _ => ⟨g, 0, rfl, fun j u hj => by rw [Nat.zero_add, hh.cell, List.getElem?_toArray]; exact hj⟩) h1 (by omega) hbase fun v' w' h2 h3 => by
    obtain ⟨a', c', rfl⟩ := own_shape h2
    exact hK _ _ (h a' c' w' h2 h3)
/-- Objects in rows of their own, as an answer. -/
def OwnObs (w : World) (L : List Oj) (n : Nat) (e : Ending) (w' : World) : Prop :=
  ∃ (L' : List Oj) (a : Option Addr) (c : Nat), e = .returned (.slice a n c) ∧ L'.length = n ∧ L'.map Oj.o = L.map Oj.o ∧ Objs w' w'.heap.size a L' ∧ Below w.heap.size w w'
set_option maxRecDepth 100000 in
set_option maxHeartbeats 4000000 in
theorem l1OwnObjectList_any (w : World) (B : Nat) (a1 : Option Addr) (c1 n : Nat) (L : List Oj) (hn : n = L.length) (h1 : Objs w B a1 L) (hB : B ≤ w.heap.size) (hlen : n ≤ 1048576) (hl : ∀ y ∈ L, y.short) :
    Calls Try.prog 34 #[.slice a1 n c1] w (OwnObs w L n) := by
  have HN := hidden hn
  have HL := hidden hl
  have H1 := hidden (h1.more hB)
  have HOW := hidden (fun (W : World) (k : Nat) (y : Oj) (hy : L[k]? = some y) (hb : Below w.heap.size w W) => l1OwnObject_any W w.heap.size y.a1 y.a2 y.c1 y.c2 y.l.length y.ms.length y.l y.ms rfl rfl ((H1.out.below hb).secs y (List.mem_of_getElem? hy)) ((H1.out.below hb).syms y (List.mem_of_getElem? hy)) hb.size (HL.out y (List.mem_of_getElem? hy)).1.1 (HL.out y (List.mem_of_getElem? hy)).2.1 (HL.out y (List.mem_of_getElem? hy)).1.2)
  clear hn hl h1 hB
  go_enter Try.func34, Try.ntmps34
  go_wp2_with fail
  go_loopw [3, 4] (fun v i wr => ∃ (k : Nat) (L' : List Oj) (a : Option Addr) (c : Nat), i = .int .i64 k ∧ v = .slice a k c ∧ k ≤ n ∧ Hid (OBs wr w.heap.size (.slice a k c) L') ∧ Hid (Below w.heap.size w wr) ∧ Hid (L'.map Oj.o = (L.take k).map Oj.o)) (fun _ i _ => n - (intOf i).toNat)
  case atStart =>
    exact ⟨0, [], _, 0, rfl, rfl, Nat.zero_le _, ⟨empty_row w w.heap.size 29 2 (Nat.le_refl _), by simp⟩, (Below.refl _ _).alloc (Nat.le_refl _) _, (by show _ = _; rfl)⟩
  case round =>
    obtain ⟨k, L', a, c, rfl, rfl, hk, hS, hb, hL⟩ := hrel
    have hLk : Hid (L'.length = k) := by
      have := congrArg List.length hL.out
      rw [List.length_map, List.length_map, List.length_take, ← HN.out] at this
      show _ = _
      omega
    by_cases hlt : k < n
    · have hilt : (k : Int) < (n : Int) := by omega
      have hkl : k < L.length := by rw [← HN.out]; exact hlt
      have hs1 := H1.out.below hb.out
      obtain ⟨b, off, rfl, hbB, p0, p1⟩ := hs1.at_ hkl
      obtain ⟨y, hy⟩ : ∃ y, L[k] = y := ⟨_, rfl⟩
      rw [hy] at p0 p1
      have hy2 : L[k]? = some y := by rw [List.getElem?_eq_getElem hkl, hy]
      have HCA := hidden (HOW.out wr k y hy2 hb.out)
      have HTK : Hid ((L.take (k + 1)).map Oj.o = (L.take k).map Oj.o ++ [(y.l.map Sp.s, y.ms)]) := by show _ = _; rw [List.take_add_one, hy2, List.map_append]; rfl
      unfold AnsO at HCA
      obtain ⟨yl, ym, ya1, yc1, ya2, yc2⟩ := y
      dsimp only at p0 p1 HCA HTK
      obtain ⟨n1, hn1⟩ : ∃ q, yl.length = q := ⟨_, rfl⟩
      obtain ⟨n2, hn2⟩ : ∃ q, ym.length = q := ⟨_, rfl⟩
      rw [hn1] at p0 HCA
      rw [hn2] at p1 HCA
      have HN1 := hidden hn1.symm
      have HN2 := hidden hn2.symm
      clear hlt hkl hs1 hbB hy hy2 hn1 hn2
      go_wp2_with fail
      refine HCA.out.mono ?_
      clear HCA p0 p1
      rintro e w5 ⟨l5, b1, b2, d1, d2, rfl, hl5, ho5, hb5⟩
      have hl5n : l5.length = n1 := by
        have := congrArg List.length hl5
        rw [List.length_map, List.length_map] at this
        rw [this]; exact HN1.out.symm
      rw [hl5n] at ho5 ⊢
      have hS5 := hS.out.only hb5
      have hb5w := hb.out.trans (hb5.mono hb.out.size)
      have hOB : OB w5 w.heap.size ⟨l5, ym, b1, d1, b2, d2⟩ := ⟨by have := ho5.secs.lower hb.out.size; dsimp only; rwa [hl5n], by have := row_lower ho5.syms hb.out.size; dsimp only; rw [← HN2.out]; exact this⟩
      have HOWN : Hid ((w5.alloc (.cells #[.slice b1 n1 d1, .slice b2 n2 d2] 29)).ownsRow w.heap.size 29 2 (.slice a k c) k (flatQ L')) := by
        have := hS5.row.alloc (.cells #[.slice b1 n1 d1, .slice b2 n2 d2] 29)
        rwa [hLk.out] at this
      have HNEW : Hid (Has (w5.alloc (.cells #[.slice b1 n1 d1, .slice b2 n2 d2] 29)) w5.heap.size 29 [Value.slice b1 n1 d1, .slice b2 n2 d2].toArray) := Has.new _ _ _
      have HST : Hid (w.heap.size ≤ (w5.alloc (.cells #[.slice b1 n1 d1, .slice b2 n2 d2] 29)).heap.size) := Nat.le_trans hb5w.size (by simp)
      have HS5 := hidden (hS5.alloc (.cells #[.slice b1 n1 d1, .slice b2 n2 d2] 29))
      have HB5W := hidden (hb5w.alloc hb5w.size (.cells #[.slice b1 n1 d1, .slice b2 n2 d2] 29))
      have HOB := hidden (hOB.kept (grown_only ((Below.refl _ _).alloc (Nat.le_refl _) (.cells #[.slice b1 n1 d1, .slice b2 n2 d2] 29))))
      have HL5 := hidden hl5
      have HL5N := hidden hl5n
      clear ho5 hb5 hS5 hb5w hOB hl5 hl5n
      go_wp2_with (at_builtin; refine wpList_app_obj _ rfl _ _ rfl w.heap.size _ k (flatQ L') rfl HOWN.out w5.heap.size 1 [Value.slice b1 n1 d1, .slice b2 n2 d2] rfl rfl HNEW.out (by intro u hu; simp only [List.mem_cons, List.not_mem_nil, or_false] at hu; rcases hu with rfl | rfl <;> rfl) (by omega) HST.out ?_)
      intro va' vc' W10 hrow10 hg10
      have HS10 : Hid (OBs W10 w.heap.size (.slice va' (k + 1) vc') (L' ++ [⟨l5, ym, b1, d1, b2, d2⟩])) := HS5.out.app HOB.out (by rw [hLk.out]; dsimp only; rw [HL5N.out, ← HN2.out]; exact hrow10) hg10
      have HB10 : Hid (Below w.heap.size w W10) := HB5W.out.grown hg10 HB5W.out.size (fun q hq => (HOWN.out.lt q hq).1)
      have HLN' : Hid ((L' ++ [(⟨l5, ym, b1, d1, b2, d2⟩ : Oj)]).map Oj.o = (L.take (k + 1)).map Oj.o) := by
        show _ = _
        rw [HTK.out, ← hL.out, List.map_append]
        show _ ++ [(l5.map Sp.s, ym)] = _
        rw [HL5.out]
      clear hrow10 hg10 HOWN HNEW HST HS5 HB5W HOB HL5 HL5N hS hb hL hLk HTK HN1 HN2
      go_wp2_with fail
      go_roundw
      case rel => exact ⟨k + 1, _, va', vc', by go_num, rfl, by omega, HS10, HB10, HLN'⟩
      case measure => simp [intOf]; omega
    · have hilt : ¬ (k : Int) < (n : Int) := by omega
      have hkn : k = n := by omega
      subst hkn
      have HLL : Hid (L'.map Oj.o = L.map Oj.o) := by
        show _ = _
        rw [hL.out, List.take_of_length_le (by rw [← HN.out]; exact Nat.le_refl _)]
      clear hlt hL hk
      go_wp2_with fail
      go_ret
      exact ⟨L', a, c, rfl, hLk.out, HLL.out, hS.out.all, hb.out⟩

end Go.Proofs.Ytiocchmlmcoieaa

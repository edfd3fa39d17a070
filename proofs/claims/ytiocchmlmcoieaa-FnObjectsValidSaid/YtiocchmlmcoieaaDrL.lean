/-
  Objects that are being drawn: rows of the call's own.
-/
import Derived.Test.YtiocchmlmcoieaaDrawO
import Derived.Test.YtiocchmlmcoieaaObsL
namespace Go.Proofs.Ytiocchmlmcoieaa
open Go.RowKit

/-- An object in rows of the call's own. -/
structure OO (W : World) (base : Nat) (y : Oj) : Prop where
  secs : SL W base (.slice y.a1 y.l.length y.c1) y.l
  syms : W.ownsRow base 82 4 (.slice y.a2 y.ms.length y.c2) y.ms.length (flatM y.ms)
  small : ∀ m ∈ y.ms, m.small
  few1 : y.l.length ≤ 8
  few2 : y.ms.length ≤ 20
/-- The block of its symbols. -/
def Oj.own (y : Oj) : Option Nat := (Value.slice y.a2 y.ms.length y.c2).ownBlock
/-- The cells of objects, one behind the other. -/
def flatO (L : List Oj) : List Value := L.flatMap fun y => [.slice y.a1 y.l.length y.c1, .slice y.a2 y.ms.length y.c2]
theorem flatO_length (L : List Oj) : (flatO L).length = L.length * 2 := by
  induction L with
  | nil => rfl
  | cons f r ih => simp only [flatO, List.flatMap_cons, List.length_append] at *; rw [ih]; simp; omega
theorem flatO_snoc (L : List Oj) (y : Oj) : flatO (L ++ [y]) = flatO L ++ [.slice y.a1 y.l.length y.c1, .slice y.a2 y.ms.length y.c2] := by
  simp [flatO]
theorem flatO_at : ∀ (L : List Oj) (i : Nat) (y : Oj), L[i]? = some y → (flatO L)[i * 2]? = some (.slice y.a1 y.l.length y.c1) ∧ (flatO L)[i * 2 + 1]? = some (.slice y.a2 y.ms.length y.c2)
  | [], _, _, h => by simp at h
  | x :: r, 0, y, h => by simp at h; subst h; simp [flatO]
  | x :: r, i + 1, y, h => by
    have ih := flatO_at r i y (by simpa using h)
    have e : flatO (x :: r) = .slice x.a1 x.l.length x.c1 :: .slice x.a2 x.ms.length x.c2 :: flatO r := by simp [flatO]
    have e1 : (i + 1) * 2 = i * 2 + 1 + 1 := by omega
    rw [e, e1]
    simpa [List.getElem?_cons_succ, Nat.add_assoc] using ih
theorem flatO_set : ∀ (L : List Oj) (i : Nat) (y z : Oj), L[i]? = some y → z.a1 = y.a1 → z.l.length = y.l.length → z.c1 = y.c1 → z.a2 = y.a2 → z.ms.length = y.ms.length → z.c2 = y.c2 → flatO (L.set i z) = flatO L
  | [], _, _, _, h, _, _, _, _, _, _ => by simp at h
  | x :: r, 0, y, z, h, h1, h2, h3, h4, h5, h6 => by simp at h; subst h; simp [flatO, h1, h2, h3, h4, h5, h6]
  | x :: r, i + 1, y, z, h, h1, h2, h3, h4, h5, h6 => by
    have ih := flatO_set r i y z (by simpa using h) h1 h2 h3 h4 h5 h6
    simp only [List.set_cons_succ]
    unfold flatO at ih ⊢
    rw [List.flatMap_cons, List.flatMap_cons, ih]
/-- The row 'v' holds the objects 'L'; the objects 'M' have rows that are apart. -/
structure OL (W : World) (base : Nat) (v : Value) (L M : List Oj) : Prop where
  row : W.ownsRow base 29 2 v L.length (flatO L)
  objs : ∀ (i : Nat) (y : Oj), M[i]? = some y → OO W base y
  apart : ∀ (i j : Nat) (y z : Oj), i ≠ j → M[i]? = some y → M[j]? = some z → ∀ k, y.own = some k → z.own ≠ some k
section
variable {W W' : World} {base : Nat} {v : Value} {y : Oj} {L M : List Oj}
theorem OO.low (h : OO W base y) {g : Nat} (hg : g < base) (hw : W.grownBy W' (some g)) : OO W' base y :=
  ⟨h.secs.low hg hw, h.syms.kept hw (row_high h.syms hg), h.small, h.few1, h.few2⟩
theorem OO.kept (h : OO W base y) (hw : W.grownBy W' none) : OO W' base y :=
  ⟨h.secs.kept hw, h.syms.kept hw (Classical.em _), h.small, h.few1, h.few2⟩
theorem OO.alloc (h : OO W base y) (o : Obj) : OO (W.alloc o) base y := ⟨h.secs.alloc o, h.syms.alloc o, h.small, h.few1, h.few2⟩
theorem OO.lower (h : OO W base y) {b : Nat} (hb : b ≤ base) : OO W b y :=
  ⟨⟨row_lower h.secs.row hb, h.secs.small, fun z hz => row_lower (h.secs.own1 z hz) hb, fun z hz => row_lower (h.secs.own2 z hz) hb⟩, row_lower h.syms hb, h.small, h.few1, h.few2⟩
/-- A row of another type is written. -/
theorem OO.row' (h : OO W base y) {base' : Nat} {T : TypeId} {size : Nat} {u : Value} {n : Nat} {xs : List Value} (hu : W.ownsRow base' T size u n xs) (h1 : 42 ≠ T) (h2 : 5 ≠ T) (h3 : 119 ≠ T) (h4 : 82 ≠ T) (hw : W.grownBy W' u.ownBlock) : OO W' base y :=
  ⟨h.secs.row' hu h1 h2 h3 hw, h.syms.kept hw (rows_apart h.syms hu h4), h.small, h.few1, h.few2⟩
/-- A block of another type is written. -/
theorem OO.other (h : OO W base y) {b : Nat} {T : TypeId} {cs : Array Value} (hb : Has W b T cs) (h1 : 42 ≠ T) (h2 : 5 ≠ T) (h3 : 119 ≠ T) (h4 : 82 ≠ T) (hw : W.grownBy W' (some b)) : OO W' base y :=
  ⟨h.secs.other hb h1 h2 h3 hw, h.syms.kept hw (row_apart h.syms hb h4), h.small, h.few1, h.few2⟩
theorem OL.low (h : OL W base v L M) {g : Nat} (hg : g < base) (hw : W.grownBy W' (some g)) : OL W' base v L M :=
  ⟨h.row.kept hw (row_high h.row hg), fun i y hi => (h.objs i y hi).low hg hw, h.apart⟩
theorem OL.kept (h : OL W base v L M) (hw : W.grownBy W' none) : OL W' base v L M :=
  ⟨h.row.kept hw (Classical.em _), fun i y hi => (h.objs i y hi).kept hw, h.apart⟩
theorem OL.alloc (h : OL W base v L M) (o : Obj) : OL (W.alloc o) base v L M := ⟨h.row.alloc o, fun i y hi => (h.objs i y hi).alloc o, h.apart⟩
theorem OL.other (h : OL W base v L M) {b : Nat} {T : TypeId} {cs : Array Value} (hb : Has W b T cs) (h0 : 29 ≠ T) (h1 : 42 ≠ T) (h2 : 5 ≠ T) (h3 : 119 ≠ T) (h4 : 82 ≠ T) (hw : W.grownBy W' (some b)) : OL W' base v L M :=
  ⟨h.row.kept hw (row_apart h.row hb h0), fun i y hi => (h.objs i y hi).other hb h1 h2 h3 h4 hw, h.apart⟩
theorem OL.row' (h : OL W base v L M) {base' : Nat} {T : TypeId} {size : Nat} {u : Value} {n : Nat} {xs : List Value} (hu : W.ownsRow base' T size u n xs) (h0 : 29 ≠ T) (h1 : 42 ≠ T) (h2 : 5 ≠ T) (h3 : 119 ≠ T) (h4 : 82 ≠ T) (hw : W.grownBy W' u.ownBlock) : OL W' base v L M :=
  ⟨h.row.kept hw (rows_apart h.row hu h0), fun i y hi => (h.objs i y hi).row' hu h1 h2 h3 h4 hw, h.apart⟩
theorem OL.val (h : OL W base v L M) : ∃ a c, v = .slice a L.length c := own_val h.row
theorem Oj.own_lt (h : OO W base y) : ∀ k, y.own = some k → base ≤ k ∧ k < W.heap.size := fun k hk => h.syms.lt k hk
/-- One more object. -/
theorem OL.snoc (h : OL W base v L M) {b : Nat} (hb : W.heap.size ≤ b) (hb' : base ≤ b) {g : Nat} (hg : g < base) (hw : W.grownBy W' (some g)) (hy : OO W' b y) : OL W' base v L (M ++ [y]) := by
  have h' := h.low hg hw
  refine ⟨h'.row, fun i z hi => ?_, fun i j z z' hne hi hj k hk => ?_⟩
  · rw [List.getElem?_append] at hi
    split at hi
    · exact h'.objs i z hi
    · obtain ⟨_, rfl⟩ : i - M.length = 0 ∧ y = z := by
        rcases hc : i - M.length with _ | q
        · rw [hc] at hi; simpa using hi
        · rw [hc] at hi; simp at hi
      exact hy.lower hb'
  · have key : ∀ (i : Nat) (z : Oj), (M ++ [y])[i]? = some z → (i < M.length ∧ M[i]? = some z) ∨ (i = M.length ∧ z = y) := fun i z hi => by
      rw [List.getElem?_append] at hi
      split at hi
      · exact .inl ⟨by assumption, hi⟩
      · refine .inr ?_
        rcases hc : i - M.length with _ | q
        · rw [hc] at hi; simp at hi; exact ⟨by omega, hi.symm⟩
        · rw [hc] at hi; simp at hi
    rcases key i z hi with ⟨h1, h2⟩ | ⟨h1, h2⟩ <;> rcases key j z' hj with ⟨h3, h4⟩ | ⟨h3, h4⟩
    · exact h.apart i j z z' hne h2 h4 k hk
    · subst h4
      intro e
      have q1 := (Oj.own_lt (h.objs i z h2) k hk).2
      have q2 := (Oj.own_lt hy k e).1
      omega
    · subst h2
      intro e
      have q1 := (Oj.own_lt (h.objs j z' h4) k e).2
      have q2 := (Oj.own_lt hy k hk).1
      omega
    · omega
/-- The row with one more. -/
theorem OL.app {v' : Value} (h : OL W base v L (L ++ [y])) (hr : W'.ownsRow base 29 2 v' (L.length + 1) (flatO L ++ [.slice y.a1 y.l.length y.c1, .slice y.a2 y.ms.length y.c2])) (hw : W.grownBy W' v.ownBlock) : OL W' base v' (L ++ [y]) (L ++ [y]) :=
  ⟨by rw [flatO_snoc, List.length_append]; exact hr, fun i z hi => (h.objs i z hi).row' h.row (by decide) (by decide) (by decide) (by decide) hw, h.apart⟩
/-- The cells of an object in the row. -/
theorem OL.at_ {i : Nat} (h : OL W base v L M) (hi : L[i]? = some y) : ∃ b c, v = .slice (some ⟨b, 0, none⟩) L.length c ∧ base ≤ b ∧ W.cell? ⟨b, i * 2, none⟩ = some (.slice y.a1 y.l.length y.c1) ∧ W.cell? ⟨b, i * 2 + 1, none⟩ = some (.slice y.a2 y.ms.length y.c2) := by
  have hil : i < L.length := (List.getElem?_eq_some_iff.1 hi).1
  rcases h.row.2 with ⟨_, h0⟩ | ⟨g, cap, cur, hv, hgb, hh, _, _, _, ht⟩
  · omega
  have hh' : Has W g 29 cur := hh
  obtain ⟨e0, e1⟩ := flatO_at L i y hi
  have key : ∀ j (u : Value), j < L.length * 2 → (flatO L)[j]? = some u → W.cell? ⟨g, j, none⟩ = some u := fun j u hj hu => by
    rw [hh'.cell j, ← Array.getElem?_toList]
    rw [← ht, List.getElem?_take, if_pos hj] at hu
    exact hu
  exact ⟨g, cap, hv, hgb, key _ _ (by omega) e0, key _ _ (by omega) e1⟩
theorem OL.objs' {a : Option Addr} {c : Nat} (h : OL W base (.slice a L.length c) L L) : Objs W W.heap.size a L :=
  ⟨fun hn => by
    obtain ⟨y, hy⟩ : ∃ y, L[0]? = some y := ⟨_, List.getElem?_eq_getElem hn⟩
    rcases h.row.2 with ⟨_, h0⟩ | ⟨g, cap, cur, hv, hgb, hh, _, _, _, ht⟩
    · omega
    injection hv with hv _
    have hh' : Has W g 29 cur := hh
    refine ⟨g, 0, hv, hh'.lt, fun i z hi => ?_⟩
    obtain ⟨b, c', e, _, q0, q1⟩ := h.at_ hi
    injection e with e _
    rw [hv] at e
    injection e with e
    injection e with e
    subst e
    exact ⟨by rw [Nat.zero_add]; exact q0, by rw [Nat.zero_add]; exact q1⟩,
   fun z hz => by
    obtain ⟨i, hi⟩ := List.getElem?_of_mem hz
    exact (h.objs i z hi).secs.sects,
   fun z hz => by
    obtain ⟨i, hi⟩ := List.getElem?_of_mem hz
    exact syms_of_own (h.objs i z hi).syms⟩
/-- A cell of a row is written. -/
theorem rowPut {T : TypeId} {size n c b t : Nat} {xs : List Value} (h : W.ownsRow base T size (.slice (some ⟨b, 0, none⟩) n c) n xs) (u : Value) : (W.setCell ⟨b, t, none⟩ u).ownsRow base T size (.slice (some ⟨b, 0, none⟩) n c) n (xs.set t u) := by
  rcases h.2 with ⟨e, _⟩ | ⟨g, cap, cur, hv, hgb, hh, k1, k2, k3, ht⟩
  · cases e
  have hv' := hv
  injection hv' with e1 _ e2
  injection e1 with e1
  injection e1 with e1
  subst e1
  subst e2
  have hh' : Has W b T cur := hh
  refine ⟨by rw [List.length_set]; exact h.1, .inr ⟨b, c, cur.setIfInBounds t u, rfl, hgb, hh'.put t u, k1, k2, by rw [Array.size_setIfInBounds]; exact k3, ?_⟩⟩
  rw [Array.toList_setIfInBounds, List.take_set, ht]
theorem flatM_setL : ∀ (ms : List Sm) (j : Nat) (m m' : Sm) (i : Nat) (u : Value), ms[j]? = some m → i < 4 → [Value.string m'.name, .int .i64 m'.bind, .int .i64 m'.loc, .int .i64 m'.value] = [Value.string m.name, .int .i64 m.bind, .int .i64 m.loc, .int .i64 m.value].set i u → flatM (ms.set j m') = (flatM ms).set (j * 4 + i) u
  | [], _, _, _, _, _, h, _, _ => by simp at h
  | x :: r, 0, m, m', i, u, h, hi, he => by
    simp at h; subst h
    simp only [List.set_cons_zero, Nat.zero_mul, Nat.zero_add]
    unfold flatM
    rw [List.flatMap_cons, List.flatMap_cons, he, List.set_append_left _ _ (by simpa using hi)]
  | x :: r, j + 1, m, m', i, u, h, hi, he => by
    have ih := flatM_setL r j m m' i u (by simpa using h) hi he
    simp only [List.set_cons_succ]
    unfold flatM at ih ⊢
    rw [List.flatMap_cons, List.flatMap_cons, ih, List.set_append_right _ _ (by simp; omega)]
    congr 2
    simp; omega
/-- A symbol's cells. -/
theorem OO.sym (h : OO W base y) {j : Nat} {m : Sm} (hj : y.ms[j]? = some m) : ∃ b, y.a2 = some ⟨b, 0, none⟩ ∧ base ≤ b ∧ y.own = some b ∧ (∃ cs, Has W b 82 cs) ∧ W.cell? ⟨b, j * 4, none⟩ = some (.string m.name) ∧ W.cell? ⟨b, j * 4 + 1, none⟩ = some (.int .i64 m.bind) ∧ W.cell? ⟨b, j * 4 + 2, none⟩ = some (.int .i64 m.loc) := by
  have hil : j < y.ms.length := (List.getElem?_eq_some_iff.1 hj).1
  rcases h.syms.2 with ⟨_, h0⟩ | ⟨g, cap, cur, hv, hgb, hh, _, _, _, ht⟩
  · omega
  have hh' : Has W g 82 cur := hh
  have hv' := hv
  injection hv' with hv' _
  obtain ⟨e0, e1, e2, _⟩ := flatM_at y.ms j m hj
  have key : ∀ t (u : Value), t < y.ms.length * 4 → (flatM y.ms)[t]? = some u → W.cell? ⟨g, t, none⟩ = some u := fun t u ht' hu => by
    rw [hh'.cell t, ← Array.getElem?_toList]
    rw [← ht, List.getElem?_take, if_pos ht'] at hu
    exact hu
  exact ⟨g, hv', hgb, by unfold Oj.own; rw [hv]; rfl, ⟨cur, hh'⟩, key _ _ (by omega) e0, key _ _ (by omega) e1, key _ _ (by omega) e2⟩
/-- A cell of a symbol is written. -/
theorem OL.put {k j i b : Nat} {m m' : Sm} {u : Value} (h : OL W base v L M) (hk : M[k]? = some y) (hj : y.ms[j]? = some m) (hb : y.a2 = some ⟨b, 0, none⟩) (hs : m'.small) (hi : i < 4) (he : [Value.string m'.name, .int .i64 m'.bind, .int .i64 m'.loc, .int .i64 m'.value] = [Value.string m.name, .int .i64 m.bind, .int .i64 m.loc, .int .i64 m.value].set i u) :
    OL (W.setCell ⟨b, j * 4 + i, none⟩ u) base v L (M.set k { y with ms := y.ms.set j m' }) := by
  have hy := h.objs k y hk
  obtain ⟨b', e1, _, e2, ⟨cs, hh⟩, _⟩ := hy.sym hj
  rw [hb] at e1
  injection e1 with e1
  injection e1 with e1
  subst e1
  have hw : W.grownBy (W.setCell ⟨b, j * 4 + i, none⟩ u) (some b) := only_put' (g := b) _ _
  have hown : ({ y with ms := y.ms.set j m' } : Oj).own = y.own := by unfold Oj.own; rw [hb]; rfl
  have hm : ∀ x ∈ y.ms.set j m', x.small := fun x hx => by
    rcases List.mem_or_eq_of_mem_set hx with q | q
    · exact hy.small x q
    · rw [q]; exact hs
  have hrow := rowPut (t := j * 4 + i) (u := u) (by have := hy.syms; rw [hb] at this; exact this)
  refine ⟨h.row.kept hw (row_apart h.row hh (by decide)), fun q z hq => ?_, fun p q z z' hne hp hq k' hk' => ?_⟩
  · rw [List.getElem?_set] at hq
    split at hq
    · split at hq
      · injection hq with hq
        subst hq
        refine ⟨hy.secs.other hh (by decide) (by decide) (by decide) hw, ?_, hm, hy.few1, by simp only [List.length_set]; exact hy.few2⟩
        simp only [List.length_set]
        rw [hb, flatM_setL y.ms j m m' i u hj hi he]
        exact hrow
      · cases hq
    · rename_i hne
      have hz := h.objs q z hq
      refine ⟨hz.secs.other hh (by decide) (by decide) (by decide) hw, hz.syms.kept hw (.inr ?_), hz.small, hz.few1, hz.few2⟩
      exact h.apart k q y z hne hk hq b e2
  · have key : ∀ (i : Nat) (z : Oj), (M.set k { y with ms := y.ms.set j m' })[i]? = some z → ∃ z0, M[i]? = some z0 ∧ z.own = z0.own := fun i z hi => by
      rw [List.getElem?_set] at hi
      split at hi
      · rename_i e
        split at hi
        · injection hi with hi
          subst hi
          subst e
          exact ⟨y, hk, hown⟩
        · cases hi
      · exact ⟨z, hi, rfl⟩
    obtain ⟨z0, r1, r2⟩ := key p z hp
    obtain ⟨z1, r3, r4⟩ := key q z' hq
    rw [r4]
    exact h.apart p q z0 z1 hne r1 r3 k' (by rw [← r2]; exact hk')
/-- .. of an object that lies in the row. -/
theorem OL.putL {k j i b : Nat} {m m' : Sm} {u : Value} (h : OL W base v L L) (hk : L[k]? = some y) (hj : y.ms[j]? = some m) (hb : y.a2 = some ⟨b, 0, none⟩) (hs : m'.small) (hi : i < 4) (he : [Value.string m'.name, .int .i64 m'.bind, .int .i64 m'.loc, .int .i64 m'.value] = [Value.string m.name, .int .i64 m.bind, .int .i64 m.loc, .int .i64 m.value].set i u) :
    OL (W.setCell ⟨b, j * 4 + i, none⟩ u) base v (L.set k { y with ms := y.ms.set j m' }) (L.set k { y with ms := y.ms.set j m' }) := by
  have q := h.put hk hj hb hs hi he
  exact ⟨by rw [flatO_set L k y { y with ms := y.ms.set j m' } hk rfl rfl rfl rfl (by simp) rfl, List.length_set]; exact q.row, q.objs, q.apart⟩
end
/-- The list of objects that is being drawn. -/
structure DL (w W : World) (B g : Nat) (P : Int) (v : Value) (L M : List Oj) : Prop where
  rd : Rd W B g P
  grown : w.grownBy W (some g)
  list : OL W w.heap.size v L M
section
variable {w W W' : World} {B g : Nat} {P P' : Int} {v : Value} {L M : List Oj} {y : Oj}
theorem DL.more (d : DL w W B g P v L M) (hP : P ≤ P') : DL w W B g P' v L M := { d with rd := d.rd.mono hP }
theorem DL.pick (d : DL w W B g P v L M) (hl : g < w.heap.size) (hr : Rd W' B g P') (hg : W.grownBy W' (some g)) : DL w W' B g P' v L M :=
  ⟨hr, only_trans d.grown hg, d.list.low hl hg⟩
theorem DL.alloc (d : DL w W B g P v L M) (o : Obj) : DL w (W.alloc o) B g P v L M := ⟨d.rd.alloc o, only_alloc d.grown o, d.list.alloc o⟩
theorem DL.kept (d : DL w W B g P v L M) (hg : W.grownBy W' none) : DL w W' B g P v L M :=
  ⟨d.rd.grown hg (by simp), only_trans d.grown ⟨hg.os, hg.tape, hg.output, hg.size, fun k hk _ => hg.block k hk (by simp)⟩, d.list.kept hg⟩
/-- Nothing below the call's memory is written. -/
theorem DL.high (d : DL w W B g P v L M) (hl : g < w.heap.size) {row : Option Nat} (hr : ∀ q, row = some q → w.heap.size ≤ q) (hg : W.grownBy W' row) : Rd W' B g P ∧ w.grownBy W' (some g) :=
  ⟨d.rd.grown hg fun k hk => by have := hr k hk; have := d.rd.1; omega, only_own d.grown hg hr⟩
/-- An object was drawn. -/
theorem DL.drawn (d : DL w W B g P v L L) (hl : g < w.heap.size) {a1 a2 : Option Addr} {c1 c2 : Nat} {ss : List Sp} {ms : List Sm} (h1 : ss.length ≤ 8) (h2 : ms.length ≤ 20) (hS : SL W' (W.heap.size + 2) (.slice a1 ss.length c1) ss)
    (hM : W'.ownsRow (W.heap.size + 2) 82 4 (.slice a2 ms.length c2) ms.length (flatM ms)) (hm : ∀ m ∈ ms, m.small) (hr : Rd W' B g P') (hg : W.grownBy W' (some g)) : DL w W' B g P' v L (L ++ [⟨ss, ms, a1, c1, a2, c2⟩]) :=
  ⟨hr, only_trans d.grown hg, d.list.snoc (b := W.heap.size + 2) (by omega) (by have := d.grown.size; omega) hl hg ⟨hS, hM, hm, h1, h2⟩⟩
theorem DL.app {v' : Value} (d : DL w W B g P v L (L ++ [y])) (hl : g < w.heap.size) (hr : W'.ownsRow w.heap.size 29 2 v' (L.length + 1) (flatO L ++ [.slice y.a1 y.l.length y.c1, .slice y.a2 y.ms.length y.c2])) (hw : W.grownBy W' v.ownBlock) : DL w W' B g P v' (L ++ [y]) (L ++ [y]) := by
  obtain ⟨q1, q2⟩ := d.high hl (fun q hq => (d.list.row.lt q hq).1) hw
  exact ⟨q1, q2, d.list.app hr hw⟩
theorem DL.put {k j i b : Nat} {m m' : Sm} {u : Value} (d : DL w W B g P v L M) (hl : g < w.heap.size) (hk : M[k]? = some y) (hj : y.ms[j]? = some m) (hb : y.a2 = some ⟨b, 0, none⟩) (hs : m'.small) (hi : i < 4) (he : [Value.string m'.name, .int .i64 m'.bind, .int .i64 m'.loc, .int .i64 m'.value] = [Value.string m.name, .int .i64 m.bind, .int .i64 m.loc, .int .i64 m.value].set i u) :
    DL w (W.setCell ⟨b, j * 4 + i, none⟩ u) B g P v L (M.set k { y with ms := y.ms.set j m' }) := by
  obtain ⟨b', e1, e2, _⟩ := (d.list.objs k y hk).sym hj
  rw [hb] at e1
  injection e1 with e1
  injection e1 with e1
  subst e1
  obtain ⟨q1, q2⟩ := d.high hl (row := some b) (fun q hq => by injection hq with hq; omega) (only_put' (g := b) (j * 4 + i) u)
  exact ⟨q1, q2, d.list.put hk hj hb hs hi he⟩
theorem DL.putL {k j i b : Nat} {m m' : Sm} {u : Value} (d : DL w W B g P v L L) (hl : g < w.heap.size) (hk : L[k]? = some y) (hj : y.ms[j]? = some m) (hb : y.a2 = some ⟨b, 0, none⟩) (hs : m'.small) (hi : i < 4) (he : [Value.string m'.name, .int .i64 m'.bind, .int .i64 m'.loc, .int .i64 m'.value] = [Value.string m.name, .int .i64 m.bind, .int .i64 m.loc, .int .i64 m.value].set i u) :
    DL w (W.setCell ⟨b, j * 4 + i, none⟩ u) B g P v (L.set k { y with ms := y.ms.set j m' }) (L.set k { y with ms := y.ms.set j m' }) :=
  ⟨(d.put hl hk hj hb hs hi he).rd, (d.put hl hk hj hb hs hi he).grown, d.list.putL hk hj hb hs hi he⟩
end
/-- What the draw of objects leaves. -/
def DrawnL (w : World) (B g : Nat) (P : Int) (e : Ending) (w' : World) : Prop :=
  ∃ (a : Option Addr) (c : Nat) (L : List Oj), e = .returned (.slice a L.length c) ∧ L.length ≤ 5 ∧ DL w w' B g (P + 10000) (.slice a L.length c) L L

end Go.Proofs.Ytiocchmlmcoieaa

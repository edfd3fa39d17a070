/-
  Rows of fixups and of sections, cell by cell. Sections, and symbols, that were read: rows of the call's own, one behind the other.
-/
import Derived.Test.YtiocchmlmcoieaaSecs
/- Rows of fixups and of sections, cell by cell. -/
namespace Go.Proofs.Ytiocchmlmcoieaa
open Go.RowKit

theorem row_lower {w : World} {base base' : Nat} {e : TypeId} {size : Nat} {v : Value} {n : Nat} {xs : List Value} (h : w.ownsRow base e size v n xs) (hb : base' ≤ base) : w.ownsRow base' e size v n xs :=
  ⟨h.1, h.2.imp id fun ⟨g, cap, cur, h1, h2, h3⟩ => ⟨g, cap, cur, h1, Nat.le_trans hb h2, h3⟩⟩
theorem row_apart {W : World} {base : Nat} {T T' : TypeId} {size : Nat} {v : Value} {n : Nat} {xs : List Value} {b : Nat} {cs : Array Value} (ho : W.ownsRow base T size v n xs) (hh : Has W b T' cs) (hne : T ≠ T') : v.ownBlock = none ∨ v.ownBlock ≠ some b := by
  rcases ho.2 with ⟨rfl, _⟩ | ⟨k, cap, cur, rfl, _, hk, _⟩
  · exact .inl rfl
  · refine .inr fun e => ?_
    have e' : k = b := by simpa [Value.ownBlock] using e
    subst e'
    unfold Has at hh
    rw [hh] at hk
    injection hk with hk
    injection hk with _ h2
    exact hne h2.symm
theorem row_high {W : World} {base : Nat} {T : TypeId} {size : Nat} {v : Value} {n : Nat} {xs : List Value} {b : Nat} (ho : W.ownsRow base T size v n xs) (hb : b < base) : v.ownBlock = none ∨ v.ownBlock ≠ some b := by
  cases e : v.ownBlock with
  | none => exact .inl rfl
  | some k => exact .inr fun e2 => by injection e2 with e2; have := (ho.lt k e).1; omega
/-- The cells of fixups, one behind the other. -/
def flatF (fs : List Fx) : List Value := fs.flatMap fun f => [.int .i64 f.pl, .int .i64 f.kind, .int .i64 f.to, .int .i64 f.add]
theorem flatF_length (fs : List Fx) : (flatF fs).length = fs.length * 4 := by
  induction fs with
  | nil => rfl
  | cons f r ih => simp only [flatF, List.flatMap_cons, List.length_append] at *; rw [ih]; simp; omega
theorem flatF_snoc (fs : List Fx) (f : Fx) : flatF (fs ++ [f]) = flatF fs ++ [.int .i64 f.pl, .int .i64 f.kind, .int .i64 f.to, .int .i64 f.add] := by
  simp [flatF]
theorem flatF_at : ∀ (fs : List Fx) (i : Nat) (f : Fx), fs[i]? = some f →
    (flatF fs)[i * 4]? = some (.int .i64 f.pl) ∧ (flatF fs)[i * 4 + 1]? = some (.int .i64 f.kind) ∧ (flatF fs)[i * 4 + 2]? = some (.int .i64 f.to) ∧ (flatF fs)[i * 4 + 3]? = some (.int .i64 f.add)
  | [], _, _, h => by simp at h
  | x :: r, 0, f, h => by simp at h; subst h; simp [flatF]
  | x :: r, i + 1, f, h => by
    have ih := flatF_at r i f (by simpa using h)
    have e : flatF (x :: r) = .int .i64 x.pl :: .int .i64 x.kind :: .int .i64 x.to :: .int .i64 x.add :: flatF r := by simp [flatF]
    have e1 : (i + 1) * 4 = i * 4 + 1 + 1 + 1 + 1 := by omega
    rw [e, e1]
    simpa [List.getElem?_cons_succ, Nat.add_assoc] using ih
theorem fixs_of_own {w : World} {base : Nat} {a : Option Addr} {c : Nat} {fs : List Fx} (h : w.ownsRow base 119 4 (.slice a fs.length c) fs.length (flatF fs)) : Fixs w w.heap.size a fs := fun hn => by
  rcases h.2 with ⟨_, h0⟩ | ⟨g, cap, cur, hv, _, hh, _, _, _, ht⟩
  · omega
  have hh' : Has w g 119 cur := hh
  injection hv with hv _
  refine ⟨g, 0, hv, hh'.lt, fun i f hf => ?_⟩
  have hi : i < fs.length := (List.getElem?_eq_some_iff.1 hf).1
  obtain ⟨e0, e1, e2, e3⟩ := flatF_at fs i f hf
  have key : ∀ j (v : Value), j < fs.length * 4 → (flatF fs)[j]? = some v → w.cell? ⟨g, 0 + j, none⟩ = some v := fun j v hj hv => by
    rw [Nat.zero_add, hh'.cell j, ← Array.getElem?_toList]
    rw [← ht, List.getElem?_take, if_pos hj] at hv
    exact hv
  have q0 := key (i * 4) _ (by omega) e0
  have q1 := key (i * 4 + 1) _ (by omega) e1
  have q2 := key (i * 4 + 2) _ (by omega) e2
  have q3 := key (i * 4 + 3) _ (by omega) e3
  exact ⟨q0, by simpa [Nat.add_assoc] using q1, by simpa [Nat.add_assoc] using q2, by simpa [Nat.add_assoc] using q3⟩
theorem addr_row (b j : Nat) : (⟨b, 0, none⟩ : Addr).add j = ⟨b, j, none⟩ := by
  have e : (⟨b, 0, none⟩ : Addr).add j = ⟨b, 0 + j, none⟩ := by unfold Addr.add; split <;> simp_all
  rw [e, Nat.zero_add]
/-- The cells of sections, one behind the other. -/
def flatS (l : List Sp) : List Value := l.flatMap fun y => [.string y.s.name, .int .i64 y.s.kind, .int .i64 y.s.align, .slice y.a1 y.s.bytes.length y.c1, .int .i64 y.s.size, .slice y.a2 y.s.fixs.length y.c2]
theorem flatS_length (l : List Sp) : (flatS l).length = l.length * 6 := by
  induction l with
  | nil => rfl
  | cons f r ih => simp only [flatS, List.flatMap_cons, List.length_append] at *; rw [ih]; simp; omega
theorem flatS_snoc (l : List Sp) (y : Sp) : flatS (l ++ [y]) = flatS l ++ [.string y.s.name, .int .i64 y.s.kind, .int .i64 y.s.align, .slice y.a1 y.s.bytes.length y.c1, .int .i64 y.s.size, .slice y.a2 y.s.fixs.length y.c2] := by
  simp [flatS]
theorem flatS_at : ∀ (l : List Sp) (i : Nat) (y : Sp), l[i]? = some y →
    (flatS l)[i * 6]? = some (.string y.s.name) ∧ (flatS l)[i * 6 + 1]? = some (.int .i64 y.s.kind) ∧ (flatS l)[i * 6 + 2]? = some (.int .i64 y.s.align) ∧ (flatS l)[i * 6 + 3]? = some (.slice y.a1 y.s.bytes.length y.c1) ∧ (flatS l)[i * 6 + 4]? = some (.int .i64 y.s.size) ∧ (flatS l)[i * 6 + 5]? = some (.slice y.a2 y.s.fixs.length y.c2)
  | [], _, _, h => by simp at h
  | x :: r, 0, y, h => by simp at h; subst h; simp [flatS]
  | x :: r, i + 1, y, h => by
    have ih := flatS_at r i y (by simpa using h)
    have e : flatS (x :: r) = .string x.s.name :: .int .i64 x.s.kind :: .int .i64 x.s.align :: .slice x.a1 x.s.bytes.length x.c1 :: .int .i64 x.s.size :: .slice x.a2 x.s.fixs.length x.c2 :: flatS r := by simp [flatS]
    have e1 : (i + 1) * 6 = i * 6 + 1 + 1 + 1 + 1 + 1 + 1 := by omega
    rw [e, e1]
    simpa [List.getElem?_cons_succ, Nat.add_assoc] using ih
theorem rows_apart {W : World} {base base' : Nat} {T T' : TypeId} {size size' : Nat} {v v' : Value} {n n' : Nat} {xs xs' : List Value} (h : W.ownsRow base T size v n xs) (h' : W.ownsRow base' T' size' v' n' xs') (hne : T ≠ T') : v.ownBlock = none ∨ v.ownBlock ≠ v'.ownBlock := by
  rcases h.2 with ⟨rfl, _⟩ | ⟨k, cap, cur, rfl, _, hk, _⟩
  · exact .inl rfl
  · refine .inr fun e => ?_
    have hk' : Has W k T cur := hk
    rcases row_apart h' hk' hne.symm with h2 | h2
    · rw [h2] at e; simp [Value.ownBlock] at e
    · exact h2 (by rw [← e]; simp [Value.ownBlock])
/-- Symbols in a row of its own. -/
def flatM (l : List Sm) : List Value := l.flatMap fun m => [.string m.name, .int .i64 m.bind, .int .i64 m.loc, .int .i64 m.value]
theorem flatM_length (l : List Sm) : (flatM l).length = l.length * 4 := by
  induction l with
  | nil => rfl
  | cons f r ih => simp only [flatM, List.flatMap_cons, List.length_append] at *; rw [ih]; simp; omega
theorem flatM_snoc (l : List Sm) (m : Sm) : flatM (l ++ [m]) = flatM l ++ [.string m.name, .int .i64 m.bind, .int .i64 m.loc, .int .i64 m.value] := by
  simp [flatM]
theorem flatM_at : ∀ (l : List Sm) (i : Nat) (m : Sm), l[i]? = some m →
    (flatM l)[i * 4]? = some (.string m.name) ∧ (flatM l)[i * 4 + 1]? = some (.int .i64 m.bind) ∧ (flatM l)[i * 4 + 2]? = some (.int .i64 m.loc) ∧ (flatM l)[i * 4 + 3]? = some (.int .i64 m.value)
  | [], _, _, h => by simp at h
  | x :: r, 0, m, h => by simp at h; subst h; simp [flatM]
  | x :: r, i + 1, m, h => by
    have ih := flatM_at r i m (by simpa using h)
    have e : flatM (x :: r) = .string x.name :: .int .i64 x.bind :: .int .i64 x.loc :: .int .i64 x.value :: flatM r := by simp [flatM]
    have e1 : (i + 1) * 4 = i * 4 + 1 + 1 + 1 + 1 := by omega
    rw [e, e1]
    simpa [List.getElem?_cons_succ, Nat.add_assoc] using ih
theorem syms_of_own {w : World} {base : Nat} {a : Option Addr} {c : Nat} {l : List Sm} (h : w.ownsRow base 82 4 (.slice a l.length c) l.length (flatM l)) : Syms w w.heap.size a l := fun hn => by
  rcases h.2 with ⟨_, h0⟩ | ⟨g, cap, cur, hv, _, hh, _, _, _, ht⟩
  · omega
  have hh' : Has w g 82 cur := hh
  injection hv with hv _
  have key : ∀ j (u : Value), j < l.length * 4 → (flatM l)[j]? = some u → w.cell? ⟨g, 0 + j, none⟩ = some u := fun j u hj hu => by
    rw [Nat.zero_add, hh'.cell j, ← Array.getElem?_toList]
    rw [← ht, List.getElem?_take, if_pos hj] at hu
    exact hu
  refine ⟨g, 0, hv, hh'.lt, fun i m hi => ?_⟩
  have hil : i < l.length := (List.getElem?_eq_some_iff.1 hi).1
  obtain ⟨e0, e1, e2, e3⟩ := flatM_at l i m hi
  exact ⟨key _ _ (by omega) e0, by have := key _ _ (by omega) e1; rwa [← Nat.add_assoc] at this, by have := key _ _ (by omega) e2; rwa [← Nat.add_assoc] at this, by have := key _ _ (by omega) e3; rwa [← Nat.add_assoc] at this⟩

end Go.Proofs.Ytiocchmlmcoieaa
/- Sections, and symbols, that were read: rows of the call's own, one behind the other. -/
namespace Go.Proofs.Ytiocchmlmcoieaa
open Go.RowKit

theorem Has.other {W : World} {b : Nat} {T : TypeId} {cs : Array Value} {base : Nat} {T' : TypeId} {size : Nat} {v : Value} {n : Nat} {xs : List Value} (h : Has W b T cs) (ho : W.ownsRow base T' size v n xs) (hne : T' ≠ T) : some b ≠ v.ownBlock := fun e => by
  rcases row_apart ho h hne with h1 | h1
  · rw [h1] at e; cases e
  · exact h1 e.symm
/-- Two sections share no list. -/
def ListsApart (y z : Sp) : Prop := (y.a1 = none ∨ y.a1 ≠ z.a1) ∧ (y.a2 = none ∨ y.a2 ≠ z.a2)
/-- Sections that were read: a row of its own, and each one's lists. -/
structure SR (W : World) (base : Nat) (v : Value) (l : List Sp) : Prop where
  row : W.ownsRow base 42 6 v l.length (flatS l)
  wf : ∀ y ∈ l, ∀ x ∈ y.s.bytes, (Lit.int .u8 x).wf = true
  own1 : ∀ y ∈ l, W.ownsRow base 5 1 (.slice y.a1 y.s.bytes.length y.c1) y.s.bytes.length (y.s.bytes.map (Value.int .u8))
  own2 : ∀ y ∈ l, W.ownsRow base 119 4 (.slice y.a2 y.s.fixs.length y.c2) y.s.fixs.length (flatF y.s.fixs)
  apart : l.Pairwise ListsApart
section
variable {W W' : World} {base : Nat} {v : Value} {l : List Sp}
theorem SR.nil (W : World) (base : Nat) : SR W base (.slice none 0 0) [] := ⟨World.ownsRow_nil _ _ _ _, by simp, by simp, by simp, .nil⟩
theorem SR.kept (h : SR W base v l) (hw : W.grownBy W' none) : SR W' base v l :=
  ⟨h.row.kept hw (Classical.em _), h.wf, fun y hy => (h.own1 y hy).kept hw (Classical.em _), fun y hy => (h.own2 y hy).kept hw (Classical.em _), h.apart⟩
theorem SR.alloc (h : SR W base v l) (o : Obj) : SR (W.alloc o) base v l :=
  ⟨h.row.alloc o, h.wf, fun y hy => (h.own1 y hy).alloc o, fun y hy => (h.own2 y hy).alloc o, h.apart⟩
/-- A block of another type is written. -/
theorem SR.other (h : SR W base v l) {b : Nat} {T : TypeId} {cs : Array Value} (hb : Has W b T cs) (h1 : 42 ≠ T) (h2 : 5 ≠ T) (h3 : 119 ≠ T) (hw : W.grownBy W' (some b)) : SR W' base v l :=
  ⟨h.row.kept hw (row_apart h.row hb h1), h.wf, fun y hy => (h.own1 y hy).kept hw (row_apart (h.own1 y hy) hb h2), fun y hy => (h.own2 y hy).kept hw (row_apart (h.own2 y hy) hb h3), h.apart⟩
/-- A row that came later is written. -/
theorem SR.high (h : SR W base v l) {b : Nat} (hb : W.heap.size ≤ b) (hw : W.grownBy W' (some b)) : SR W' base v l := by
  have k : ∀ {T : TypeId} {size : Nat} {u : Value} {n : Nat} {xs : List Value}, W.ownsRow base T size u n xs → u.ownBlock = none ∨ u.ownBlock ≠ some b := fun ho => by
    rename_i u _ _
    cases e : u.ownBlock with
    | none => exact .inl rfl
    | some j => exact .inr fun e2 => by injection e2 with e2; have := (ho.lt j e).2; omega
  exact ⟨h.row.kept hw (k h.row), h.wf, fun y hy => (h.own1 y hy).kept hw (k (h.own1 y hy)), fun y hy => (h.own2 y hy).kept hw (k (h.own2 y hy)), h.apart⟩
/-- A row of another type is appended to. -/
theorem SR.row' (h : SR W base v l) {base' : Nat} {T : TypeId} {size : Nat} {u : Value} {n : Nat} {xs : List Value} (hu : W.ownsRow base' T size u n xs) (h1 : 42 ≠ T) (h2 : 5 ≠ T) (h3 : 119 ≠ T) (hw : W.grownBy W' u.ownBlock) : SR W' base v l :=
  ⟨h.row.kept hw (rows_apart h.row hu h1), h.wf, fun y hy => (h.own1 y hy).kept hw (rows_apart (h.own1 y hy) hu h2), fun y hy => (h.own2 y hy).kept hw (rows_apart (h.own2 y hy) hu h3), h.apart⟩
/-- A section is put behind the others. -/
theorem SR.app (h : SR W base v l) {y : Sp} (hap : ∀ z ∈ l, ListsApart z y) (hs : ∀ x ∈ y.s.bytes, (Lit.int .u8 x).wf = true) (h1 : W.ownsRow base 5 1 (.slice y.a1 y.s.bytes.length y.c1) y.s.bytes.length (y.s.bytes.map (Value.int .u8)))
    (h2 : W.ownsRow base 119 4 (.slice y.a2 y.s.fixs.length y.c2) y.s.fixs.length (flatF y.s.fixs)) {v' : Value}
    (hr : W'.ownsRow base 42 6 v' (l.length + 1) (flatS l ++ [.string y.s.name, .int .i64 y.s.kind, .int .i64 y.s.align, .slice y.a1 y.s.bytes.length y.c1, .int .i64 y.s.size, .slice y.a2 y.s.fixs.length y.c2])) (hw : W.grownBy W' v.ownBlock) : SR W' base v' (l ++ [y]) := by
  have k1 : ∀ z ∈ l ++ [y], W.ownsRow base 5 1 (.slice z.a1 z.s.bytes.length z.c1) z.s.bytes.length (z.s.bytes.map (Value.int .u8)) := fun z hz => by
    rcases List.mem_append.1 hz with h' | h'
    · exact h.own1 z h'
    · simp only [List.mem_singleton] at h'; rw [h']; exact h1
  have k2 : ∀ z ∈ l ++ [y], W.ownsRow base 119 4 (.slice z.a2 z.s.fixs.length z.c2) z.s.fixs.length (flatF z.s.fixs) := fun z hz => by
    rcases List.mem_append.1 hz with h' | h'
    · exact h.own2 z h'
    · simp only [List.mem_singleton] at h'; rw [h']; exact h2
  refine ⟨?_, fun z hz => ?_, fun z hz => (k1 z hz).kept hw (rows_apart (k1 z hz) h.row (by decide)), fun z hz => (k2 z hz).kept hw (rows_apart (k2 z hz) h.row (by decide)), List.pairwise_append.2 ⟨h.apart, List.pairwise_singleton _ _, fun z hz u hu => by rw [List.mem_singleton.1 hu]; exact hap z hz⟩⟩
  · rw [flatS_snoc, List.length_append]; exact hr
  · rcases List.mem_append.1 hz with h' | h'
    · exact h.wf z h'
    · simp only [List.mem_singleton] at h'; rw [h']; exact hs
/-- The lists of sections that lie in a world, and rows that came later. -/
theorem SR.later (h : SR W base v l) {W2 : World} {lo : Nat} (hlo : W.heap.size ≤ lo) {y : Sp} {n1 n2 : Nat} {x1 x2 : List Value} (h1 : W2.ownsRow lo 5 1 (.slice y.a1 n1 y.c1) n1 x1) (h2 : W2.ownsRow lo 119 4 (.slice y.a2 n2 y.c2) n2 x2) : ∀ z ∈ l, ListsApart z y := fun z hz => by
  have k : ∀ {T T' : TypeId} {s s' : Nat} {a b : Option Addr} {n n' c c' : Nat} {x x' : List Value}, W.ownsRow base T s (.slice a n c) n x → W2.ownsRow lo T' s' (.slice b n' c') n' x' → a = none ∨ a ≠ b := fun {T T' s s' a b n n' c c' x x'} g1 g2 => by
    rcases a with _ | a
    · exact .inl rfl
    · refine .inr fun e => ?_
      subst e
      have e1 := (g1.lt a.block rfl).2
      have e2 := (g2.lt a.block rfl).1
      omega
  exact ⟨k (h.own1 z hz) h1, k (h.own2 z hz) h2⟩
theorem SR.sects {a : Option Addr} {c : Nat} (h : SR W base (.slice a l.length c) l) : Sects W W.heap.size a l :=
  ⟨fun hn => by
    rcases h.row.2 with ⟨_, h0⟩ | ⟨g, cap, cur, hv, hgb, hh, _, _, _, ht⟩
    · omega
    have hh' : Has W g 42 cur := hh
    injection hv with hv _
    have key : ∀ j (u : Value), j < l.length * 6 → (flatS l)[j]? = some u → W.cell? ⟨g, 0 + j, none⟩ = some u := fun j u hj hu => by
      rw [Nat.zero_add, hh'.cell j, ← Array.getElem?_toList]
      rw [← ht, List.getElem?_take, if_pos hj] at hu
      exact hu
    refine ⟨g, 0, hv, hh'.lt, fun i y hi => ?_⟩
    have hil : i < l.length := (List.getElem?_eq_some_iff.1 hi).1
    obtain ⟨e0, e1, e2, e3, e4, e5⟩ := flatS_at l i y hi
    exact ⟨key _ _ (by omega) e0, by have := key _ _ (by omega) e1; rwa [← Nat.add_assoc] at this, by have := key _ _ (by omega) e2; rwa [← Nat.add_assoc] at this, by have := key _ _ (by omega) e3; rwa [← Nat.add_assoc] at this, by have := key _ _ (by omega) e4; rwa [← Nat.add_assoc] at this, by have := key _ _ (by omega) e5; rwa [← Nat.add_assoc] at this⟩,
   fun y hy => by
    obtain ⟨b1, d1, e1, hd1, hi1⟩ := ints_of_own' (h.own1 y hy) (h.wf y hy)
    cases e1
    exact hi1,
   fun y hy => fixs_of_own (h.own2 y hy)⟩
theorem SR.val (h : SR W base v l) : ∃ a c, v = .slice a l.length c := by
  rcases h.row.2 with ⟨e, h0⟩ | ⟨g, cap, cur, e, _⟩
  · exact ⟨_, _, by rw [e, h0]⟩
  · exact ⟨_, _, e⟩
end
end Go.Proofs.Ytiocchmlmcoieaa

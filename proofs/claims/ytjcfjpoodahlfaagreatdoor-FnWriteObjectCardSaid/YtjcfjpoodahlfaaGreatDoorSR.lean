import Derived.Test.YtjcfjpoodahlfaaGreatDoorRowsX
namespace Go.Proofs.YtjcfjpoodahlfaaGreatDoor
open Go.RowKit
theorem Has.other {W : World} {b : Nat} {T : TypeId} {cs : Array Value} {base : Nat} {T' : TypeId} {size : Nat} {v : Value} {n : Nat} {xs : List Value} (h : Has W b T cs) (ho : W.ownsRow base T' size v n xs) (hne : T' ≠ T) : some b ≠ v.ownBlock := fun e => by
  rcases row_apart ho h hne with h1 | h1
  · rw [h1] at e; cases e
  · exact h1 e.symm
def ListsApart (y z : Sp) : Prop := (y.a1 = none ∨ y.a1 ≠ z.a1) ∧ (y.a2 = none ∨ y.a2 ≠ z.a2)
structure SR (W : World) (base : Nat) (v : Value) (l : List Sp) : Prop where
  row : W.ownsRow base 48 6 v l.length (flatS l)
  wf : ∀ y ∈ l, ∀ x ∈ y.s.bytes, (Lit.int .u8 x).wf = true
  own1 : ∀ y ∈ l, W.ownsRow base 5 1 (.slice y.a1 y.s.bytes.length y.c1) y.s.bytes.length (y.s.bytes.map (Value.int .u8))
  own2 : ∀ y ∈ l, W.ownsRow base 65 4 (.slice y.a2 y.s.fixs.length y.c2) y.s.fixs.length (flatF y.s.fixs)
  apart : l.Pairwise ListsApart
section
variable {W W' : World} {base : Nat} {v : Value} {l : List Sp}
theorem SR.nil (W : World) (base : Nat) : SR W base (.slice none 0 0) [] := ⟨World.ownsRow_nil _ _ _ _, by simp, by simp, by simp, .nil⟩
theorem SR.kept (h : SR W base v l) (hw : W.grownBy W' none) : SR W' base v l :=
  ⟨h.row.kept hw (Classical.em _), h.wf, fun y hy => (h.own1 y hy).kept hw (Classical.em _), fun y hy => (h.own2 y hy).kept hw (Classical.em _), h.apart⟩
theorem SR.alloc (h : SR W base v l) (o : Obj) : SR (W.alloc o) base v l :=
  ⟨h.row.alloc o, h.wf, fun y hy => (h.own1 y hy).alloc o, fun y hy => (h.own2 y hy).alloc o, h.apart⟩
theorem SR.other (h : SR W base v l) {b : Nat} {T : TypeId} {cs : Array Value} (hb : Has W b T cs) (h1 : 48 ≠ T) (h2 : 5 ≠ T) (h3 : 65 ≠ T) (hw : W.grownBy W' (some b)) : SR W' base v l :=
  ⟨h.row.kept hw (row_apart h.row hb h1), h.wf, fun y hy => (h.own1 y hy).kept hw (row_apart (h.own1 y hy) hb h2), fun y hy => (h.own2 y hy).kept hw (row_apart (h.own2 y hy) hb h3), h.apart⟩
theorem SR.high (h : SR W base v l) {b : Nat} (hb : W.heap.size ≤ b) (hw : W.grownBy W' (some b)) : SR W' base v l := by
  have k : ∀ {T : TypeId} {size : Nat} {u : Value} {n : Nat} {xs : List Value}, W.ownsRow base T size u n xs → u.ownBlock = none ∨ u.ownBlock ≠ some b := fun ho => by
    rename_i u _ _
    cases e : u.ownBlock with
    | none => exact .inl rfl
    | some j => exact .inr fun e2 => by injection e2 with e2; have := (ho.lt j e).2; omega
  exact ⟨h.row.kept hw (k h.row), h.wf, fun y hy => (h.own1 y hy).kept hw (k (h.own1 y hy)), fun y hy => (h.own2 y hy).kept hw (k (h.own2 y hy)), h.apart⟩
theorem SR.row' (h : SR W base v l) {base' : Nat} {T : TypeId} {size : Nat} {u : Value} {n : Nat} {xs : List Value} (hu : W.ownsRow base' T size u n xs) (h1 : 48 ≠ T) (h2 : 5 ≠ T) (h3 : 65 ≠ T) (hw : W.grownBy W' u.ownBlock) : SR W' base v l :=
  ⟨h.row.kept hw (rows_apart h.row hu h1), h.wf, fun y hy => (h.own1 y hy).kept hw (rows_apart (h.own1 y hy) hu h2), fun y hy => (h.own2 y hy).kept hw (rows_apart (h.own2 y hy) hu h3), h.apart⟩
theorem SR.app (h : SR W base v l) {y : Sp} (hap : ∀ z ∈ l, ListsApart z y) (hs : ∀ x ∈ y.s.bytes, (Lit.int .u8 x).wf = true) (h1 : W.ownsRow base 5 1 (.slice y.a1 y.s.bytes.length y.c1) y.s.bytes.length (y.s.bytes.map (Value.int .u8)))
    (h2 : W.ownsRow base 65 4 (.slice y.a2 y.s.fixs.length y.c2) y.s.fixs.length (flatF y.s.fixs)) {v' : Value}
    (hr : W'.ownsRow base 48 6 v' (l.length + 1) (flatS l ++ [.string y.s.name, .int .i64 y.s.kind, .int .i64 y.s.align, .slice y.a1 y.s.bytes.length y.c1, .int .i64 y.s.size, .slice y.a2 y.s.fixs.length y.c2])) (hw : W.grownBy W' v.ownBlock) : SR W' base v' (l ++ [y]) := by
  have k1 : ∀ z ∈ l ++ [y], W.ownsRow base 5 1 (.slice z.a1 z.s.bytes.length z.c1) z.s.bytes.length (z.s.bytes.map (Value.int .u8)) := fun z hz => by
    rcases List.mem_append.1 hz with h' | h'
    · exact h.own1 z h'
    · simp only [List.mem_singleton] at h'; rw [h']; exact h1
  have k2 : ∀ z ∈ l ++ [y], W.ownsRow base 65 4 (.slice z.a2 z.s.fixs.length z.c2) z.s.fixs.length (flatF z.s.fixs) := fun z hz => by
    rcases List.mem_append.1 hz with h' | h'
    · exact h.own2 z h'
    · simp only [List.mem_singleton] at h'; rw [h']; exact h2
  refine ⟨?_, fun z hz => ?_, fun z hz => (k1 z hz).kept hw (rows_apart (k1 z hz) h.row (by decide)), fun z hz => (k2 z hz).kept hw (rows_apart (k2 z hz) h.row (by decide)), List.pairwise_append.2 ⟨h.apart, List.pairwise_singleton _ _, fun z hz u hu => by rw [List.mem_singleton.1 hu]; exact hap z hz⟩⟩
  · rw [flatS_snoc, List.length_append]; exact hr
  · rcases List.mem_append.1 hz with h' | h'
    · exact h.wf z h'
    · simp only [List.mem_singleton] at h'; rw [h']; exact hs
theorem SR.later (h : SR W base v l) {W2 : World} {lo : Nat} (hlo : W.heap.size ≤ lo) {y : Sp} {n1 n2 : Nat} {x1 x2 : List Value} (h1 : W2.ownsRow lo 5 1 (.slice y.a1 n1 y.c1) n1 x1) (h2 : W2.ownsRow lo 65 4 (.slice y.a2 n2 y.c2) n2 x2) : ∀ z ∈ l, ListsApart z y := fun z hz => by
  have k : ∀ {T T' : TypeId} {s s' : Nat} {a b : Option Addr} {n n' c c' : Nat} {x x' : List Value}, W.ownsRow base T s (.slice a n c) n x → W2.ownsRow lo T' s' (.slice b n' c') n' x' → a = none ∨ a ≠ b := fun {T T' s s' a b n n' c c' x x'} g1 g2 => by
    rcases a with _ | a
    · exact .inl rfl
    · refine .inr fun e => ?_
      subst e
      have e1 := (g1.lt a.block rfl).2
      have e2 := (g2.lt a.block rfl).1
      omega
  exact ⟨k (h.own1 z hz) h1, k (h.own2 z hz) h2⟩
theorem SR.sects {a : Option Addr} {c : Nat} (h : SR W base (.slice a l.length c) l) : Sects W W.heap.size a l :=
  ⟨fun hn => by
    rcases h.row.2 with ⟨_, h0⟩ | ⟨g, cap, cur, hv, hgb, hh, _, _, _, ht⟩
    · omega
    have hh' : Has W g 48 cur := hh
    injection hv with hv _
    have key : ∀ j (u : Value), j < l.length * 6 → (flatS l)[j]? = some u → W.cell? ⟨g, 0 + j, none⟩ = some u := fun j u hj hu => by
      rw [Nat.zero_add, hh'.cell j, ← Array.getElem?_toList]
      rw [← ht, List.getElem?_take, if_pos hj] at hu
      exact hu
    refine ⟨g, 0, hv, hh'.lt, fun i y hi => ?_⟩
    have hil : i < l.length := (List.getElem?_eq_some_iff.1 hi).1
    obtain ⟨e0, e1, e2, e3, e4, e5⟩ := flatS_at l i y hi
    exact ⟨key _ _ (by omega) e0, by have := key _ _ (by omega) e1; rwa [← Nat.add_assoc] at this, by have := key _ _ (by omega) e2; rwa [← Nat.add_assoc] at this, by have := key _ _ (by omega) e3; rwa [← Nat.add_assoc] at this, by have := key _ _ (by omega) e4; rwa [← Nat.add_assoc] at this, by have := key _ _ (by omega) e5; rwa [← Nat.add_assoc] at this⟩,
   fun y hy => by
    obtain ⟨b1, d1, e1, hd1, hi1⟩ := ints_of_own' (h.own1 y hy) (h.wf y hy)
    cases e1
    exact hi1,
   fun y hy => fixs_of_own (h.own2 y hy)⟩
theorem SR.val (h : SR W base v l) : ∃ a c, v = .slice a l.length c := by
  rcases h.row.2 with ⟨e, h0⟩ | ⟨g, cap, cur, e, _⟩
  · exact ⟨_, _, by rw [e, h0]⟩
  · exact ⟨_, _, e⟩
end

/-
  Lists of lists of numbers in memory: rows of one's own in a row of one's own; an append that tells where the new row lies.
-/
import Derived.Test.YtiocchmlmcoieaaCopO
import Derived.Test.YtiocchmlmcoieaaLayP
import Derived.Deep.DeepAppendRoom
namespace Go.Proofs.Ytiocchmlmcoieaa
open Go.RowKit

/-- append(row, elements...), where there are elements: the new row lies where the old one did, or in new memory. -/
theorem wp_append_fresh {P : Program} {o : Oper} {a : Act} {w : World} {K : Act → World → Prop} {Q : Exit → Act → World → Prop} (s x : Operand) (t e : TypeId) (ho : o.op = .call { callee := .builtin .append, args := #[s, x], argTypes := #[t, t] }) (z : Value) (size bytes : Nat)
    (hinfo : (P.info? e).map (fun i => (i.zero, i.size, i.bytes)) = some (some z, size, bytes)) (ht : P.underlying t = some (.slice e)) (hzs : z.cells.size = size) (hsz : 0 < size) (hby : bytes ≤ 1000)
    (base : Nat) (v : Value) (n : Nat) (xs : List Value) (hs : a.eval s = v) (hown : w.ownsRow base e size v n xs) (b off m c : Nat) (news : List Value) (hx : a.eval x = .slice (some ⟨b, off, none⟩) m c) (hl : news.length = m * size) (hm : 0 < m)
    (hc : ∀ j u, news[j]? = some u → w.cell? ⟨b, off + j, none⟩ = some u) (h1 : ∀ u ∈ news, u.oneCell' = true) (h63 : n + m ≤ 1000000000) (hbase : base ≤ w.heap.size)
    (h : ∀ v' w', w'.ownsRow base e size v' (n + m) (xs ++ news) → w.grownBy w' v.ownBlock → (v'.ownBlock = v.ownBlock ∨ w'.ownsRow w.heap.size e size v' (n + m) (xs ++ news)) → K (a.put o.dst v') w') : o.wp P a w K Q := by
  obtain ⟨i0, hi0, hz0, hz1, hz2⟩ := info_parts hinfo
  have hmul : (n + m) * bytes ≤ 140737488355328 := Nat.le_trans (Nat.mul_le_mul h63 hby) (by decide)
  have hadd : ∀ j, (⟨b, off, none⟩ : Addr).add j = ⟨b, off + j, none⟩ := fun j => by unfold Addr.add; split <;> simp_all
  have hcc : ∀ j u, news[j]? = some u → w.cell? ((⟨b, off, none⟩ : Addr).add j) = some u := fun j u hj => by rw [hadd]; exact hc j u hj
  rcases hown.2 with ⟨hv, hn0⟩ | ⟨g, cap, cur, hv, hb, hh, hn, hm2, hs2, ht2⟩
  · subst hn0
    have hxs : xs = [] := List.eq_nil_of_length_eq_zero (by rw [hown.1, Nat.zero_mul])
    subst hxs
    subst hv
    refine wp_append_own w s x t ho w.heap.size e i0 z size bytes ht hi0 hz0 hz1 hz2 hzs hsz (.slice none 0 0) 0 [] hs (World.ownsRow_nil _ _ _ _) ⟨b, off, none⟩ m c news hx hl hcc h1 (by unfold maxLen; omega) hmul (Nat.le_refl _) fun v' w' h2 h3 _ => ?_
    exact h v' w' (row_lower h2 hbase) h3 (.inr h2)
  · by_cases hroom : n + m ≤ cap
    · subst hv
      refine wp_append_own_spare w s x t ho base e i0 size ht hi0 hz1 g n cap xs hs hown ⟨b, off, none⟩ m c news hx hl hcc h1 hroom fun w' h2 h3 => ?_
      exact h _ w' h2 h3 (.inl rfl)
    · have hcell : ∀ j u, xs[j]? = some u → w.cell? ((⟨g, 0, none⟩ : Addr).add j) = some u := hown.cells (by rw [hv]; rfl)
      subst hv
      obtain ⟨v', w', hrun, r1, r2⟩ := run_append_arg_grows (P := P) w t o.type e i0 z size bytes ht hi0 hz0 hz1 hz2 hzs hsz ⟨g, 0, none⟩ n cap xs hown.1 hcell ⟨b, off, none⟩ m c news hl hcc (by omega) (by unfold maxLen; omega) hmul
      unfold Oper.wp execOp
      simp only [ho, resolve, invoke, builtin, Sem.run_bind, Sem.run_pure, Result.andThen_ok, List.map_toArray, List.map_cons, List.map_nil, hs, hx, hrun]
      exact h v' w' (row_lower r1 hbase) ⟨r2.os, r2.tape, r2.output, r2.size, fun k hk _ => r2.block k hk (by simp)⟩ (.inr r1)
/-- A list of numbers in a block of its own. -/
structure Rn where
  g : Nat
  r : List Int
def Rn.val (x : Rn) : Value := .slice (some ⟨x.g, 0, none⟩) x.r.length x.r.length
def Rn.cells (x : Rn) : Array Value := (x.r.map (Value.int .i64)).toArray
theorem Try.info_ints : (Try.prog.info? 39).map (fun i => (i.zero, i.size, i.bytes)) = some (some (.slice none 0 0), 1, 24) := by kernel_rfl
/-- A list of lists of numbers, each in a block of its own. -/
structure Rw (W : World) (lo : Nat) (v : Value) (l : List Rn) : Prop where
  row : W.ownsRow lo 39 1 v l.length (l.map Rn.val)
  vals : ∀ x ∈ l, lo ≤ x.g ∧ Has W x.g 3 x.cells
  apart : l.Pairwise (fun x y => x.g ≠ y.g)
section
variable {W W' : World} {lo : Nat} {v : Value} {l : List Rn}
theorem Rw.kept (h : Rw W lo v l) (hg : W.grownBy W' none) : Rw W' lo v l :=
  ⟨h.row.kept hg (by cases hv : v.ownBlock <;> simp), fun x hx => ⟨(h.vals x hx).1, (h.vals x hx).2.grown hg (by simp)⟩, h.apart⟩
theorem Rw.only (h : Rw W lo v l) (hb : Below W.heap.size W W') : Rw W' lo v l := h.kept (grown_only hb)
theorem Rw.alloc (h : Rw W lo v l) (o : Obj) : Rw (W.alloc o) lo v l := h.only ((Below.refl _ _).alloc (Nat.le_refl _) o)
theorem Rw.drewN (h : Rw W lo v l) (n : Nat) : Rw (W.drewN n) lo v l := ⟨h.row, h.vals, h.apart⟩
theorem Rw.lower {lo' : Nat} (h : Rw W lo v l) (hl : lo' ≤ lo) : Rw W lo' v l := ⟨row_lower h.row hl, fun x hx => ⟨Nat.le_trans hl (h.vals x hx).1, (h.vals x hx).2⟩, h.apart⟩
/-- What is written elsewhere leaves it. -/
theorem Rw.other (h : Rw W lo v l) {b : Nat} {T : TypeId} {cs : Array Value} (hh : Has W b T cs) (h1 : T ≠ 3) (h2 : T ≠ 39) (hg : W.grownBy W' (some b)) : Rw W' lo v l :=
  ⟨h.row.kept hg (row_apart h.row hh (Ne.symm h2)), fun x hx => ⟨(h.vals x hx).1, (h.vals x hx).2.grown hg (by intro e; injection e with e; exact (h.vals x hx).2.differ hh (Ne.symm h1) e)⟩, h.apart⟩
/-- A row of rows that grows elsewhere leaves it. -/
theorem Rw.beside (h : Rw W lo v l) {row : Option Nat} (hg : W.grownBy W' row) (hne : v.ownBlock = none ∨ v.ownBlock ≠ row) (hr : ∀ q, row = some q → ∃ T cs, Has W q T cs ∧ T ≠ 3) : Rw W' lo v l :=
  ⟨h.row.kept hg hne, fun x hx => ⟨(h.vals x hx).1, (h.vals x hx).2.grown hg (by
    intro e
    obtain ⟨T, cs, h1, h2⟩ := hr x.g e.symm
    exact (h.vals x hx).2.differ h1 (Ne.symm h2) rfl)⟩, h.apart⟩
theorem Rw.at_ {a : Option Addr} {n c : Nat} (h : Rw W lo (.slice a n c) l) {k : Nat} {x : Rn} (hk : l[k]? = some x) : ∃ q, a = some ⟨q, 0, none⟩ ∧ q < W.heap.size ∧ W.cell? ⟨q, k, none⟩ = some (.slice (some ⟨x.g, 0, none⟩) x.r.length x.r.length) := by
  have hkl := (List.getElem?_eq_some_iff.1 hk).1
  rcases h.row.2 with ⟨_, h0⟩ | ⟨g, cap, cur, e, _, hh, _⟩
  · omega
  · have e1 := (Value.slice.inj e).1
    have e2 := (Value.slice.inj e).2.1
    have e3 := (Value.slice.inj e).2.2
    subst e1
    subst e2
    refine ⟨g, rfl, Has.lt hh, ?_⟩
    rw [World.ownsRow.cellAt h.row k (by omega), List.getElem?_map, hk]
    rfl
theorem Rw.num (h : Rw W lo v l) {k j : Nat} {x : Rn} {z : Int} (hk : l[k]? = some x) (hj : x.r[j]? = some z) : W.cell? ⟨x.g, j, none⟩ = some (.int .i64 z) ∧ W.frozen? ⟨x.g, j, none⟩ = false := by
  have hh := (h.vals x (List.mem_of_getElem? hk)).2
  refine ⟨?_, hh.free j⟩
  rw [hh.cell j]
  unfold Rn.cells
  rw [List.getElem?_toArray, List.getElem?_map, hj]
  rfl
theorem Rw.set (h : Rw W lo v l) {k j : Nat} {x : Rn} {z : Int} (hk : l[k]? = some x) : Rw (W.setCell ⟨x.g, j, none⟩ (.int .i64 z)) lo v (l.set k ⟨x.g, x.r.set j z⟩) := by
  have hkl := (List.getElem?_eq_some_iff.1 hk).1
  have hx := h.vals x (List.mem_of_getElem? hk)
  have hg : W.grownBy (W.setCell ⟨x.g, j, none⟩ (.int .i64 z)) (some x.g) := only_put' j _
  have hap := List.pairwise_iff_getElem.1 h.apart
  have hxk : l[k] = x := (List.getElem?_eq_some_iff.1 hk).2
  refine ⟨?_, fun y hy => ?_, ?_⟩
  · have e : (l.set k ⟨x.g, x.r.set j z⟩).map Rn.val = l.map Rn.val := by
      rw [List.map_set]
      apply List.ext_getElem?
      intro i
      rw [List.getElem?_set, List.getElem?_map]
      by_cases e : k = i
      · subst e
        rw [hk, List.length_map]
        simp [hkl, Rn.val]
      · simp [e]
    rw [e, List.length_set]
    exact h.row.kept hg (row_apart h.row hx.2 (by decide))
  · obtain ⟨i, hi⟩ := List.getElem?_of_mem hy
    rw [List.getElem?_set] at hi
    by_cases e : k = i
    · rw [if_pos e] at hi
      simp only [hkl, if_true, Option.some.injEq] at hi
      subst hi
      refine ⟨hx.1, ?_⟩
      have := hx.2.put j (.int .i64 z)
      unfold Rn.cells at this ⊢
      rw [List.map_set]
      simpa using this
    · rw [if_neg e] at hi
      have hil := (List.getElem?_eq_some_iff.1 hi).1
      have hiy := (List.getElem?_eq_some_iff.1 hi).2
      refine ⟨(h.vals y (List.mem_of_getElem? hi)).1, (h.vals y (List.mem_of_getElem? hi)).2.away (p := ⟨x.g, j, none⟩) ?_ _⟩
      show y.g ≠ x.g
      rcases Nat.lt_or_ge k i with h1 | h1
      · have := hap k i hkl hil h1
        rw [hxk, hiy] at this
        exact Ne.symm this
      · have := hap i k hil hkl (by omega)
        rw [hxk, hiy] at this
        exact this
  · rw [List.pairwise_iff_getElem]
    intro i i' hi hi' hii
    rw [List.length_set] at hi hi'
    have := hap i i' hi hi' hii
    rw [List.getElem_set, List.getElem_set]
    split <;> split
    · omega
    · rename_i e1 e2
      subst e1
      rw [hxk] at this
      exact this
    · rename_i e1 e2
      subst e2
      rw [hxk] at this
      exact this
    · exact this
theorem rw_put {k j : Nat} {x : Rn} {z : Int} (hk : l[k]? = some x) : (l.set k ⟨x.g, x.r.set j z⟩).map Rn.r = put2 (l.map Rn.r) k j z := by
  unfold put2
  rw [List.map_set, List.getD_eq_getElem?_getD, List.getElem?_map, hk]
  rfl
/-- One more list behind the others. -/
theorem Rw.app (h : Rw W lo v l) {x : Rn} (hx : Has W x.g 3 x.cells) (hlo : lo ≤ x.g) (hne : ∀ y ∈ l, y.g ≠ x.g) {v' : Value} (hr : W'.ownsRow lo 39 1 v' (l.length + 1) (l.map Rn.val ++ [x.val])) (hg : W.grownBy W' v.ownBlock) : Rw W' lo v' (l ++ [x]) := by
  have hk : ∀ y : Rn, Has W y.g 3 y.cells → Has W' y.g 3 y.cells := fun y hy => hy.grown hg (by
    intro e
    rcases row_apart h.row hy (by decide) with h0 | h0
    · rw [h0] at e; cases e
    · exact h0 e.symm)
  refine ⟨by rw [List.length_append, List.map_append]; exact hr, fun y hy => ?_, ?_⟩
  · rcases List.mem_append.1 hy with hy | hy
    · exact ⟨(h.vals y hy).1, hk y (h.vals y hy).2⟩
    · rw [List.mem_singleton.1 hy]; exact ⟨hlo, hk x hx⟩
  · rw [List.pairwise_append]
    exact ⟨h.apart, List.pairwise_singleton _ _, fun y hy z hz => by rw [List.mem_singleton.1 hz]; exact hne y hy⟩
theorem Rw.low (h : Rw W lo v l) : ∀ y ∈ l, y.g < W.heap.size := fun y hy => (h.vals y hy).2.lt
theorem Rw.nil (hl : lo ≤ W.heap.size) : Rw (W.alloc (.cells #[] 39)) lo (.slice (some ⟨W.heap.size, 0, none⟩) 0 0) [] := ⟨empty_row W lo 39 1 hl, by simp, .nil⟩
theorem Rw.nil0 : Rw W lo (.slice none 0 0) [] := ⟨World.ownsRow_nil _ _ _ _, by simp, .nil⟩
/-- The list of a place, and the number in it. -/
theorem Rw.ints (h : Rw W lo v l) {k : Nat} {x : Rn} (hk : l[k]? = some x) (hwf : ∀ z ∈ x.r, (Lit.int .i64 z).wf = true) : Ints W .i64 W.heap.size (some ⟨x.g, 0, none⟩) x.r := by
  have hh := (h.vals x (List.mem_of_getElem? hk)).2
  refine ⟨hwf, fun _ => ⟨x.g, 0, rfl, hh.lt, fun i hi => ?_⟩⟩
  rw [Nat.zero_add, hh.cell i]
  unfold Rn.cells
  rw [List.getElem?_toArray, List.getElem?_map, List.getElem?_eq_getElem hi]
  simp [List.getD, List.getElem?_eq_getElem hi]
end
/-- Lists of numbers, as an answer. -/
def AnsR (w : World) (pl : List (List Int)) (a : Option Addr) (n c : Nat) (w' : World) : Prop :=
  ∃ l : List Rn, l.map Rn.r = pl ∧ n = pl.length ∧ Rw w' w.heap.size (.slice a n c) l ∧ Below w.heap.size w w'

end Go.Proofs.Ytiocchmlmcoieaa

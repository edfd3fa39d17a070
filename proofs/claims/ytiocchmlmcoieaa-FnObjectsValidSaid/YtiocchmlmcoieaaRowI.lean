/-
  Rows of bytes that are written one behind the other.
-/
import Derived.Test.YtiocchmlmcoieaaPut
import Derived.Test.YtiocchmlmcoieaaBase
import Derived.Test.YtiocchmlmcoieaaRegionV
import Derived.ArgAppend
import Derived.Lib.SlBytesConst
namespace Go.Proofs.Ytiocchmlmcoieaa
open Go.RowKit

theorem row_lower' {w : World} {base base' : Nat} {e : TypeId} {size : Nat} {v : Value} {n : Nat} {xs : List Value} (h : w.ownsRow base e size v n xs) (hb : base' ≤ base) : w.ownsRow base' e size v n xs :=
  ⟨h.1, h.2.imp id fun ⟨g, cap, cur, h1, h2, h3⟩ => ⟨g, cap, cur, h1, Nat.le_trans hb h2, h3⟩⟩
/-- A row of bytes of the call's own. -/
def RowI (W : World) (base : Nat) (v : Value) (N : Nat) (L : List Int) : Prop := W.ownsRow base 5 1 v N (L.map (Value.int .u8))
section
variable {W W' : World} {base N : Nat} {v : Value} {L : List Int}
theorem RowI.len (h : RowI W base v N L) : N = L.length := by
  have := h.1
  rw [List.length_map, Nat.mul_one] at this
  exact this.symm
theorem RowI.shape (h : RowI W base v N L) (hN : 0 < N) : ∃ g c, v = .slice (some ⟨g, 0, none⟩) N c := by
  rcases h.2 with ⟨_, h0⟩ | ⟨g, cap, cur, e, _⟩
  · omega
  · exact ⟨g, cap, e⟩
theorem RowI.lower {b : Nat} (h : RowI W base v N L) (hb : b ≤ base) : RowI W b v N L := row_lower' h hb
theorem RowI.only (h : RowI W base v N L) (hb : Below W.heap.size W W') : RowI W' base v N L :=
  h.kept (row := none) ⟨hb.os, hb.tape, hb.output, hb.size, fun i hi _ => hb.block i hi⟩ (Classical.em _)
theorem RowI.drew (h : RowI W base v N L) : RowI W.drew base v N L := h.kept (row := none) ⟨rfl, rfl, rfl, Nat.le_refl _, fun _ _ _ => rfl⟩ (Classical.em _)
theorem RowI.alloc (h : RowI W base v N L) (o : Obj) : RowI (W.alloc o) base v N L := World.ownsRow.alloc h o
theorem RowI.away {b : Nat} {t : TypeId} {cs : Array Value} (h : RowI W base v N L) (hh : Has W b t cs) (ht : t ≠ 5) : some b ≠ v.ownBlock := fun e => by
  rcases h.2 with ⟨rfl, _⟩ | ⟨g, cap, cur, rfl, _, hb, _⟩
  · simp [Value.ownBlock] at e
  · simp [Value.ownBlock] at e
    subst e
    unfold Has at hh
    rw [hh] at hb
    injection hb with hb
    injection hb with _ hb
    exact ht hb
end
theorem run_append_none {P : Program} {w : World} {base : Nat} {e : TypeId} {size : Nat} (t ty : TypeId) (i : TypeInfo) (ht : P.underlying t = some (.slice e)) (hi : P.info? e = some i)
    (v : Value) (n : Nat) (xs : List Value) (hown : w.ownsRow base e size v n xs) (c : Nat) :
    (Builtin.append_ #[t, t] ty #[v, .slice none 0 c]).run P w = .ok v w := by
  rcases hown.2 with ⟨rfl, rfl⟩ | ⟨g, cap, cur, rfl, _, _, hnc, _⟩
  · simp [Builtin.append_, run_underlying ht, sizeOf, typeInfo, hi, Builtin.lenOf, Builtin.firstCells]
  · simp [Builtin.append_, run_underlying ht, sizeOf, typeInfo, hi, Builtin.lenOf, Builtin.firstCells, hnc, storeCells]
set_option maxRecDepth 100000 in
/-- append(row, bytes...). -/
theorem wp_append_ints {o : Oper} {a : Act} {w : World} {K : Act → World → Prop} {Q : Exit → Act → World → Prop} (s x : Operand) (ho : o.op = .call { callee := .builtin .append, args := #[s, x], argTypes := #[22, 22] })
    (base : Nat) (v : Value) (N : Nat) (L : List Int) (hs : a.eval s = v) (hown : RowI w base v N L) (ad : Option Addr) (m c B : Nat) (l : List Int) (hm : m = l.length) (hx : a.eval x = .slice ad m c) (hi : Ints w .u8 B ad l) (h63 : N + m ≤ 1000000000) (hbase : base ≤ w.heap.size)
    (h : ∀ v' w', RowI w' base v' (N + m) (L ++ l) → w.grownBy w' v.ownBlock → K (a.put o.dst v') w') : o.wp Try.prog a w K Q := by
  obtain ⟨i0, hi0, hz0, hz1, hz2⟩ := info_parts Try.info_u8
  have go : ∀ (b off : Nat), ad = some ⟨b, off, none⟩ → (∀ i, i < l.length → w.cell? ⟨b, off + i, none⟩ = some (.int .u8 (l.getD i 0))) → o.wp Try.prog a w K Q := fun b off e hc => by
    rw [e] at hx
    refine wp_append_own w s x 22 ho base 5 i0 (.int .u8 0) 1 1 Try.underlying22 hi0 hz0 hz1 hz2 rfl (by decide) v N (L.map (Value.int .u8)) hs hown ⟨b, off, none⟩ m c (l.map (Value.int .u8)) hx (by rw [List.length_map, hm, Nat.mul_one]) (fun j u hu => ?_) (fun u hu => ?_) (by unfold maxLen; omega) (by omega) hbase (fun v' w' h1 h2 _ => h v' w' ?_ h2)
    · have hj : j < l.length := by
        rcases Nat.lt_or_ge j l.length with h | h
        · exact h
        · rw [List.getElem?_eq_none (by rw [List.length_map]; exact h)] at hu; cases hu
      have e2 : (⟨b, off, none⟩ : Addr).add j = ⟨b, off + j, none⟩ := by unfold Addr.add; split <;> simp_all
      rw [e2, hc j hj, ← hu, List.getElem?_map, List.getElem?_eq_getElem hj]
      simp [List.getD, List.getElem?_eq_getElem hj]
    · obtain ⟨z, _, rfl⟩ := List.mem_map.1 hu; rfl
    · unfold RowI; rw [List.map_append]; exact h1
  rcases Nat.eq_zero_or_pos l.length with h0 | hpos
  · rcases ad with _ | ⟨b, off, ext⟩
    · obtain rfl : l = [] := List.eq_nil_of_length_eq_zero h0
      obtain rfl : m = 0 := by rw [hm]; rfl
      unfold Oper.wp execOp
      simp only [ho, resolve, invoke, builtin, Sem.run_bind, Sem.run_pure, Result.andThen_ok, List.map_toArray, List.map_cons, List.map_nil, hs, hx, run_append_none 22 o.type i0 Try.underlying22 hi0 v N _ hown c]
      refine h v w ?_ ⟨rfl, rfl, rfl, Nat.le_refl _, fun _ _ _ => rfl⟩
      show RowI w base v (N + 0) (L ++ [])
      rw [Nat.add_zero, List.append_nil]; exact hown
    · obtain rfl : l = [] := List.eq_nil_of_length_eq_zero h0
      refine wp_append_own w s x 22 ho base 5 i0 (.int .u8 0) 1 1 Try.underlying22 hi0 hz0 hz1 hz2 rfl (by decide) v N (L.map (Value.int .u8)) hs hown ⟨b, off, ext⟩ m c [] hx (by rw [hm]; rfl) (fun j u hu => by simp at hu) (fun u hu => by simp at hu) (by unfold maxLen; omega) (by omega) hbase (fun v' w' h1 h2 _ => h v' w' ?_ h2)
      simpa [RowI] using h1
  · obtain ⟨b, off, e, _, hc⟩ := hi.2 hpos
    exact go b off e hc
theorem wpList_append_ints {ops : Array Oper} {rest : List Oper} {o : Oper} {a : Act} (w : World) {Q : Exit → Act → World → Prop} (hgd : o.guard = none) (s x : Operand) (ho : o.op = .call { callee := .builtin .append, args := #[s, x], argTypes := #[22, 22] })
    (base : Nat) (v : Value) (N : Nat) (L : List Int) (hs : a.eval s = v) (hown : RowI w base v N L) (ad : Option Addr) (m c B : Nat) (l : List Int) (hm : m = l.length) (hx : a.eval x = .slice ad m c) (hi : Ints w .u8 B ad l) (h63 : N + m ≤ 1000000000) (hbase : base ≤ w.heap.size)
    (h : ∀ v' w', RowI w' base v' (N + m) (L ++ l) → w.grownBy w' v.ownBlock → wpList Try.prog ops Q rest (a.put o.dst v') w') : wpList Try.prog ops Q (o :: rest) a w :=
  wpList_plain hgd fun _ hK => wp_append_ints s x ho base v N L hs hown ad m c B l hm hx hi h63 hbase fun v' w' h2 h3 => hK _ _ (h v' w' h2 h3)
/-- A copy of a part of the object, which stays while the row grows. -/
structure CS (wT W : World) (b : Nat) (t : TypeId) (cs : Array Value) : Prop where
  below : Below wT.heap.size wT W
  has : Has W b t cs
section
variable {wT W W' : World} {b : Nat} {t : TypeId} {cs : Array Value}
theorem CS.call (h : CS wT W b t cs) (hb : Below W.heap.size W W') : CS wT W' b t cs := ⟨h.below.trans (hb.mono h.below.size), h.has.below hb h.has.lt⟩
theorem CS.alloc (h : CS wT W b t cs) (o : Obj) : CS wT (W.alloc o) b t cs := ⟨h.below.alloc h.below.size o, h.has.alloc o⟩
theorem CS.drew (h : CS wT W b t cs) : CS wT W.drew b t cs := ⟨h.below.drew, h.has.drew⟩
theorem CS.app {v : Value} {N : Nat} {L : List Int} (h : CS wT W b t cs) (hr : RowI W wT.heap.size v N L) (hg : W.grownBy W' v.ownBlock) (ht : t ≠ 5) : CS wT W' b t cs :=
  ⟨h.below.grown hg h.below.size (fun q hq => (World.ownsRow.lt hr q hq).1), h.has.grown hg (hr.away h.has ht)⟩
end

/-- A row of bytes of the call's own, or a list that is full: what is appended lies in a row of its own. -/
def RowE (W : World) (base : Nat) (v : Value) (N : Nat) (L : List Int) : Prop :=
  RowI W base v N L ∨ (N = L.length ∧ ∃ g, v = .slice (some ⟨g, 0, none⟩) N N ∧ g < W.heap.size ∧ ∀ i, i < L.length → W.cell? ⟨g, i, none⟩ = some (.int .u8 (L.getD i 0)))
section
variable {W W' : World} {base N : Nat} {v : Value} {L : List Int}
theorem RowE.only (h : RowE W base v N L) (hb : Below W.heap.size W W') : RowE W' base v N L :=
  h.imp (fun h => h.only hb) fun ⟨hN, g, hv, hg, hc⟩ => ⟨hN, g, hv, Nat.lt_of_lt_of_le hg hb.size, fun i hi => (hb.cell hg).trans (hc i hi)⟩
theorem RowE.alloc (h : RowE W base v N L) (o : Obj) : RowE (W.alloc o) base v N L := h.only ((Below.refl _ _).alloc (Nat.le_refl _) o)
theorem RowE.drew (h : RowE W base v N L) : RowE W.drew base v N L := h.only ⟨rfl, rfl, rfl, Nat.le_refl _, fun _ _ => rfl⟩
end
set_option maxRecDepth 100000 in
/-- append(row, bytes...), where there are bytes. -/
theorem wp_append_e {o : Oper} {a : Act} {w : World} {K : Act → World → Prop} {Q : Exit → Act → World → Prop} (s x : Operand) (ho : o.op = .call { callee := .builtin .append, args := #[s, x], argTypes := #[22, 22] })
    (base : Nat) (v : Value) (N : Nat) (L : List Int) (hs : a.eval s = v) (hown : RowE w base v N L) (ad : Option Addr) (m c B : Nat) (l : List Int) (hm : m = l.length) (hm0 : 0 < m) (hx : a.eval x = .slice ad m c) (hi : Ints w .u8 B ad l) (h63 : N + m ≤ 1000000000) (hbase : base ≤ w.heap.size)
    (h : ∀ v' w', RowI w' base v' (N + m) (L ++ l) → (∀ y, Below base y w → base ≤ w.heap.size → Below base y w') → (∀ b t cs, t ≠ 5 → Has w b t cs → Has w' b t cs) → K (a.put o.dst v') w') : o.wp Try.prog a w K Q := by
  rcases hown with hown | ⟨hN, g, rfl, hg, hcl⟩
  · refine wp_append_ints s x ho base v N L hs hown ad m c B l hm hx hi h63 hbase fun v' w' h1 h2 => h v' w' h1 (fun y hy hbw => hy.grown h2 hbw (fun q hq => (World.ownsRow.lt hown q hq).1)) fun b t cs ht hh => hh.grown h2 (hown.away hh ht)
  · obtain ⟨i0, hi0, hz0, hz1, hz2⟩ := info_parts Try.info_u8
    obtain ⟨b, off, rfl, _, hc⟩ := hi.2 (by omega)
    obtain ⟨v', w', hrun, r1, r2⟩ := run_append_arg_grows (P := Try.prog) w 22 o.type 5 i0 (.int .u8 0) 1 1 Try.underlying22 hi0 hz0 hz1 hz2 rfl (by decide) ⟨g, 0, none⟩ N N (L.map (Value.int .u8)) (by rw [List.length_map, hN, Nat.mul_one]) (fun j u hj => by
        have hjl : j < L.length := by
          rcases Nat.lt_or_ge j L.length with h | h
          · exact h
          · rw [List.getElem?_eq_none (by rw [List.length_map]; exact h)] at hj; cases hj
        have e2 : (⟨g, 0, none⟩ : Addr).add j = ⟨g, j, none⟩ := by unfold Addr.add; split <;> simp_all
        rw [e2, hcl j hjl, ← hj, List.getElem?_map, List.getElem?_eq_getElem hjl]
        simp [List.getD, List.getElem?_eq_getElem hjl]) ⟨b, off, none⟩ m c (l.map (Value.int .u8)) (by rw [List.length_map, hm, Nat.mul_one]) (fun j u hj => by
        have hjl : j < l.length := by
          rcases Nat.lt_or_ge j l.length with h | h
          · exact h
          · rw [List.getElem?_eq_none (by rw [List.length_map]; exact h)] at hj; cases hj
        have e2 : (⟨b, off, none⟩ : Addr).add j = ⟨b, off + j, none⟩ := by unfold Addr.add; split <;> simp_all
        rw [e2, hc j hjl, ← hj, List.getElem?_map, List.getElem?_eq_getElem hjl]
        simp [List.getD, List.getElem?_eq_getElem hjl]) (by omega) (by unfold maxLen; omega) (by omega)
    unfold Oper.wp execOp
    simp only [ho, resolve, invoke, builtin, Sem.run_bind, Sem.run_pure, Result.andThen_ok, List.map_toArray, List.map_cons, List.map_nil, hs, hx, hrun]
    have r3 : RowI w' w.heap.size v' (N + m) (L ++ l) := by unfold RowI; rw [List.map_append]; exact r1
    exact h v' w' (r3.lower hbase) (fun y hy hbw => hy.grown r2 hbw (fun q hq => by cases hq)) fun b t cs _ hh => hh.grown r2 (by simp)
theorem wpList_append_e {ops : Array Oper} {rest : List Oper} {o : Oper} {a : Act} (w : World) {Q : Exit → Act → World → Prop} (hgd : o.guard = none) (s x : Operand) (ho : o.op = .call { callee := .builtin .append, args := #[s, x], argTypes := #[22, 22] })
    (base : Nat) (v : Value) (N : Nat) (L : List Int) (hs : a.eval s = v) (hown : RowE w base v N L) (ad : Option Addr) (m c B : Nat) (l : List Int) (hm : m = l.length) (hm0 : 0 < m) (hx : a.eval x = .slice ad m c) (hi : Ints w .u8 B ad l) (h63 : N + m ≤ 1000000000) (hbase : base ≤ w.heap.size)
    (h : ∀ v' w', RowI w' base v' (N + m) (L ++ l) → (∀ y, Below base y w → base ≤ w.heap.size → Below base y w') → (∀ b t cs, t ≠ 5 → Has w b t cs → Has w' b t cs) → wpList Try.prog ops Q rest (a.put o.dst v') w') : wpList Try.prog ops Q (o :: rest) a w :=
  wpList_plain hgd fun _ hK => wp_append_e s x ho base v N L hs hown ad m c B l hm hm0 hx hi h63 hbase fun v' w' h2 h3 h4 => hK _ _ (h v' w' h2 h3 h4)

end Go.Proofs.Ytiocchmlmcoieaa

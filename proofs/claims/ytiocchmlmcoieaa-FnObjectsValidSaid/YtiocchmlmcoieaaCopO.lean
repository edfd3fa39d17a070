/-
  Objects that are made out of others: rows that are copied, and cells that are changed in them.
-/
import Derived.Test.YtiocchmlmcoieaaRoB
import Derived.Test.YtiocchmlmcoieaaRowI
namespace Go.Proofs.Ytiocchmlmcoieaa
open Go.RowKit

/-- append(row, elements...), whatever the elements are. -/
theorem wp_append_row {P : Program} {o : Oper} {a : Act} {w : World} {K : Act → World → Prop} {Q : Exit → Act → World → Prop} (s x : Operand) (t e : TypeId) (ho : o.op = .call { callee := .builtin .append, args := #[s, x], argTypes := #[t, t] }) (z : Value) (size bytes : Nat)
    (hinfo : (P.info? e).map (fun i => (i.zero, i.size, i.bytes)) = some (some z, size, bytes)) (ht : P.underlying t = some (.slice e)) (hzs : z.cells.size = size) (hsz : 0 < size) (hby : bytes ≤ 1000)
    (base : Nat) (v : Value) (n : Nat) (xs : List Value) (hs : a.eval s = v) (hown : w.ownsRow base e size v n xs) (ad : Option Addr) (m c : Nat) (news : List Value) (hx : a.eval x = .slice ad m c) (hl : news.length = m * size)
    (hc : 0 < m → ∃ b off, ad = some ⟨b, off, none⟩ ∧ ∀ j u, news[j]? = some u → w.cell? ⟨b, off + j, none⟩ = some u) (h1 : ∀ u ∈ news, u.oneCell' = true) (h63 : n + m ≤ 1000000000) (hbase : base ≤ w.heap.size)
    (h : ∀ v' w', w'.ownsRow base e size v' (n + m) (xs ++ news) → w.grownBy w' v.ownBlock → K (a.put o.dst v') w') : o.wp P a w K Q := by
  obtain ⟨i0, hi0, hz0, hz1, hz2⟩ := info_parts hinfo
  have hmul : (n + m) * bytes ≤ 140737488355328 := Nat.le_trans (Nat.mul_le_mul h63 hby) (by decide)
  rcases Nat.eq_zero_or_pos m with rfl | hpos
  · obtain rfl : news = [] := List.eq_nil_of_length_eq_zero (by rw [hl, Nat.zero_mul])
    rcases ad with _ | ad
    · unfold Oper.wp execOp
      simp only [ho, resolve, invoke, builtin, Sem.run_bind, Sem.run_pure, Result.andThen_ok, List.map_toArray, List.map_cons, List.map_nil, hs, hx, run_append_none t o.type i0 ht hi0 v n _ hown c]
      refine h v w ?_ ⟨rfl, rfl, rfl, Nat.le_refl _, fun _ _ _ => rfl⟩
      rw [Nat.add_zero, List.append_nil]; exact hown
    · exact wp_append_own w s x t ho base e i0 z size bytes ht hi0 hz0 hz1 hz2 hzs hsz v n xs hs hown ad 0 c [] hx hl (fun j u hu => by simp at hu) (fun u hu => by simp at hu) (by unfold maxLen; omega) hmul hbase fun v' w' h2 h3 _ => h v' w' h2 h3
  · obtain ⟨b, off, rfl, hcc⟩ := hc hpos
    refine wp_append_own w s x t ho base e i0 z size bytes ht hi0 hz0 hz1 hz2 hzs hsz v n xs hs hown ⟨b, off, none⟩ m c news hx hl (fun j u hj => ?_) h1 (by unfold maxLen; omega) hmul hbase fun v' w' h2 h3 _ => h v' w' h2 h3
    have e : (⟨b, off, none⟩ : Addr).add j = ⟨b, off + j, none⟩ := by unfold Addr.add; split <;> simp_all
    rw [e]; exact hcc j u hj
theorem fixs_cells {w : World} {B : Nat} {a : Option Addr} {fs : List Fx} (h : Fixs w B a fs) : 0 < fs.length → ∃ b off, a = some ⟨b, off, none⟩ ∧ ∀ j u, (flatF fs)[j]? = some u → w.cell? ⟨b, off + j, none⟩ = some u := fun hn => by
  obtain ⟨b, off, ha, _, hc⟩ := h hn
  refine ⟨b, off, ha, fun j u hu => ?_⟩
  have hj : j < fs.length * 4 := by rw [← flatF_length]; exact (List.getElem?_eq_some_iff.1 hu).1
  obtain ⟨i, r, hr, rfl⟩ : ∃ i r, r < 4 ∧ j = i * 4 + r := ⟨j / 4, j % 4, by omega, by omega⟩
  have hi : i < fs.length := by omega
  obtain ⟨c0, c1, c2, c3⟩ := hc i _ (List.getElem?_eq_getElem hi)
  obtain ⟨e0, e1, e2, e3⟩ := flatF_at fs i _ (List.getElem?_eq_getElem hi)
  rcases (by omega : r = 0 ∨ r = 1 ∨ r = 2 ∨ r = 3) with rfl | rfl | rfl | rfl
  · rw [Nat.add_zero, e0] at hu; injection hu with hu; rw [← hu, Nat.add_zero]; exact c0
  · rw [e1] at hu; injection hu with hu; rw [← hu, ← Nat.add_assoc]; exact c1
  · rw [e2] at hu; injection hu with hu; rw [← hu, ← Nat.add_assoc]; exact c2
  · rw [e3] at hu; injection hu with hu; rw [← hu, ← Nat.add_assoc]; exact c3
theorem syms_cells {w : World} {B : Nat} {a : Option Addr} {fs : List Sm} (h : Syms w B a fs) : 0 < fs.length → ∃ b off, a = some ⟨b, off, none⟩ ∧ ∀ j u, (flatM fs)[j]? = some u → w.cell? ⟨b, off + j, none⟩ = some u := fun hn => by
  obtain ⟨b, off, ha, _, hc⟩ := h hn
  refine ⟨b, off, ha, fun j u hu => ?_⟩
  have hj : j < fs.length * 4 := by rw [← flatM_length]; exact (List.getElem?_eq_some_iff.1 hu).1
  obtain ⟨i, r, hr, rfl⟩ : ∃ i r, r < 4 ∧ j = i * 4 + r := ⟨j / 4, j % 4, by omega, by omega⟩
  have hi : i < fs.length := by omega
  obtain ⟨c0, c1, c2, c3⟩ := hc i _ (List.getElem?_eq_getElem hi)
  obtain ⟨e0, e1, e2, e3⟩ := flatM_at fs i _ (List.getElem?_eq_getElem hi)
  rcases (by omega : r = 0 ∨ r = 1 ∨ r = 2 ∨ r = 3) with rfl | rfl | rfl | rfl
  · rw [Nat.add_zero, e0] at hu; injection hu with hu; rw [← hu, Nat.add_zero]; exact c0
  · rw [e1] at hu; injection hu with hu; rw [← hu, ← Nat.add_assoc]; exact c1
  · rw [e2] at hu; injection hu with hu; rw [← hu, ← Nat.add_assoc]; exact c2
  · rw [e3] at hu; injection hu with hu; rw [← hu, ← Nat.add_assoc]; exact c3
theorem flatF_one (fs : List Fx) : ∀ u ∈ flatF fs, u.oneCell' = true := fun u hu => by
  unfold flatF at hu
  obtain ⟨f, _, hf⟩ := List.mem_flatMap.1 hu
  simp only [List.mem_cons, List.not_mem_nil, or_false] at hf
  rcases hf with rfl | rfl | rfl | rfl <;> rfl
theorem flatM_one (fs : List Sm) : ∀ u ∈ flatM fs, u.oneCell' = true := fun u hu => by
  unfold flatM at hu
  obtain ⟨f, _, hf⟩ := List.mem_flatMap.1 hu
  simp only [List.mem_cons, List.not_mem_nil, or_false] at hf
  rcases hf with rfl | rfl | rfl | rfl <;> rfl
/-- append(row, fixups...), onto an empty row. -/
theorem wpList_copy_fixs {ops : Array Oper} {rest : List Oper} {o : Oper} {a : Act} (w : World) {Q : Exit → Act → World → Prop} (hgd : o.guard = none) (s x : Operand) (ho : o.op = .call { callee := .builtin .append, args := #[s, x], argTypes := #[40, 40] })
    (base : Nat) (v : Value) (hs : a.eval s = v) (hown : w.ownsRow base 119 4 v 0 []) (ad : Option Addr) (m c B : Nat) (l : List Fx) (hm : m = l.length) (hx : a.eval x = .slice ad m c) (hi : Fixs w B ad l) (h63 : m ≤ 10000000) (hbase : base ≤ w.heap.size)
    (h : ∀ a' c' w', w'.ownsRow base 119 4 (.slice a' m c') m (flatF l) → w.grownBy w' v.ownBlock → wpList Try.prog ops Q rest (a.put o.dst (.slice a' m c')) w') : wpList Try.prog ops Q (o :: rest) a w :=
  wpList_plain hgd fun _ hK => wp_append_row s x 40 119 ho _ 4 32 Try.info_fixup Try.underlying40 rfl (by decide) (by decide) base v 0 [] hs hown ad m c (flatF l) hx (by rw [flatF_length, hm]) (fun h0 => fixs_cells hi (by omega)) (flatF_one l) (by omega) hbase fun v' w' h2 h3 => by
    rw [Nat.zero_add, List.nil_append] at h2
    obtain ⟨a', c', rfl⟩ := own_shape h2
    exact hK _ _ (h a' c' w' h2 h3)
/-- append(row, symbols...), onto an empty row. -/
theorem wpList_copy_syms {ops : Array Oper} {rest : List Oper} {o : Oper} {a : Act} (w : World) {Q : Exit → Act → World → Prop} (hgd : o.guard = none) (s x : Operand) (ho : o.op = .call { callee := .builtin .append, args := #[s, x], argTypes := #[26, 26] })
    (base : Nat) (v : Value) (hs : a.eval s = v) (hown : w.ownsRow base 82 4 v 0 []) (ad : Option Addr) (m c B : Nat) (l : List Sm) (hm : m = l.length) (hx : a.eval x = .slice ad m c) (hi : Syms w B ad l) (h63 : m ≤ 10000000) (hbase : base ≤ w.heap.size)
    (h : ∀ a' c' w', w'.ownsRow base 82 4 (.slice a' m c') m (flatM l) → w.grownBy w' v.ownBlock → wpList Try.prog ops Q rest (a.put o.dst (.slice a' m c')) w') : wpList Try.prog ops Q (o :: rest) a w :=
  wpList_plain hgd fun _ hK => wp_append_row s x 26 82 ho _ 4 40 Try.info_symbol Try.underlying26 rfl (by decide) (by decide) base v 0 [] hs hown ad m c (flatM l) hx (by rw [flatM_length, hm]) (fun h0 => syms_cells hi (by omega)) (flatM_one l) (by omega) hbase fun v' w' h2 h3 => by
    rw [Nat.zero_add, List.nil_append] at h2
    obtain ⟨a', c', rfl⟩ := own_shape h2
    exact hK _ _ (h a' c' w' h2 h3)
/-- append(row, bytes...), onto an empty row. -/
theorem wpList_copy_ints {ops : Array Oper} {rest : List Oper} {o : Oper} {a : Act} (w : World) {Q : Exit → Act → World → Prop} (hgd : o.guard = none) (s x : Operand) (ho : o.op = .call { callee := .builtin .append, args := #[s, x], argTypes := #[22, 22] })
    (base : Nat) (v : Value) (hs : a.eval s = v) (hown : w.ownsRow base 5 1 v 0 []) (ad : Option Addr) (m c B : Nat) (l : List Int) (hm : m = l.length) (hx : a.eval x = .slice ad m c) (hi : Ints w .u8 B ad l) (h63 : m ≤ 10000000) (hbase : base ≤ w.heap.size)
    (h : ∀ a' c' w', w'.ownsRow base 5 1 (.slice a' m c') m (l.map (Value.int .u8)) → w.grownBy w' v.ownBlock → wpList Try.prog ops Q rest (a.put o.dst (.slice a' m c')) w') : wpList Try.prog ops Q (o :: rest) a w :=
  wpList_append_ints w hgd s x ho base v 0 [] hs (by simpa [RowI] using hown) ad m c B l hm hx hi (by omega) hbase fun v' w' h2 h3 => by
    unfold RowI at h2
    rw [Nat.zero_add, List.nil_append] at h2
    obtain ⟨a', c', rfl⟩ := own_shape h2
    exact h a' c' w' h2 h3
/-- append(row, section). -/
theorem wpList_app_sec {ops : Array Oper} {rest : List Oper} {o : Oper} {a : Act} (w : World) {Q : Exit → Act → World → Prop} (hgd : o.guard = none) (s x : Operand) (ho : o.op = .call { callee := .builtin .append, args := #[s, x], argTypes := #[27, 27] })
    (base : Nat) (v : Value) (n : Nat) (xs : List Value) (hs : a.eval s = v) (hown : w.ownsRow base 42 6 v n xs) (g c : Nat) (news : List Value) (hx : a.eval x = .slice (some ⟨g, 0, none⟩) 1 c) (hl : news.length = 6) (hh : Has w g 42 news.toArray) (h1 : ∀ u ∈ news, u.oneCell' = true) (h63 : n ≤ 10000000) (hbase : base ≤ w.heap.size)
    (h : ∀ a' c' w', w'.ownsRow base 42 6 (.slice a' (n + 1) c') (n + 1) (xs ++ news) → w.grownBy w' v.ownBlock → wpList Try.prog ops Q rest (a.put o.dst (.slice a' (n + 1) c')) w') : wpList Try.prog ops Q (o :: rest) a w :=
  wpList_plain hgd fun _ hK => wp_append_row s x 27 42 ho _ 6 88 Try.info_section Try.underlying27 rfl (by decide) (by decide) base v n xs hs hown (some ⟨g, 0, none⟩) 1 c news hx (by omega) (fun _ => ⟨g, 0, rfl, fun j u hj => by rw [Nat.zero_add, hh.cell, List.getElem?_toArray]; exact hj⟩) h1 (by omega) hbase fun v' w' h2 h3 => by
    obtain ⟨a', c', rfl⟩ := own_shape h2
    exact hK _ _ (h a' c' w' h2 h3)
theorem Try.info_int : (Try.prog.info? 3).map (fun i => (i.zero, i.size, i.bytes)) = some (some (.int .i64 0), 1, 8) := by kernel_rfl
/-- append(row, number). -/
theorem wpList_app_int {ops : Array Oper} {rest : List Oper} {o : Oper} {a : Act} (w : World) {Q : Exit → Act → World → Prop} (hgd : o.guard = none) (s x : Operand) (ho : o.op = .call { callee := .builtin .append, args := #[s, x], argTypes := #[39, 39] })
    (base : Nat) (v : Value) (n : Nat) (xs : List Value) (hs : a.eval s = v) (hown : w.ownsRow base 3 1 v n xs) (g c : Nat) (z : Int) (hx : a.eval x = .slice (some ⟨g, 0, none⟩) 1 c) (hh : Has w g 3 #[.int .i64 z]) (h63 : n ≤ 10000000) (hbase : base ≤ w.heap.size)
    (h : ∀ a' c' w', w'.ownsRow base 3 1 (.slice a' (n + 1) c') (n + 1) (xs ++ [.int .i64 z]) → w.grownBy w' v.ownBlock → wpList Try.prog ops Q rest (a.put o.dst (.slice a' (n + 1) c')) w') : wpList Try.prog ops Q (o :: rest) a w :=
  wpList_plain hgd fun _ hK => wp_append_row s x 39 3 ho _ 1 8 Try.info_int Try.underlying39 rfl (by decide) (by decide) base v n xs hs hown (some ⟨g, 0, none⟩) 1 c [.int .i64 z] hx rfl (fun _ => ⟨g, 0, rfl, fun j u hj => by rw [Nat.zero_add, hh.cell]; simpa using hj⟩) (fun u hu => by rw [List.mem_singleton.1 hu]; rfl) (by omega) hbase fun v' w' h2 h3 => by
    obtain ⟨a', c', rfl⟩ := own_shape h2
    exact hK _ _ (h a' c' w' h2 h3)
/-- append(row, symbol). -/
theorem wpList_app_sym {ops : Array Oper} {rest : List Oper} {o : Oper} {a : Act} (w : World) {Q : Exit → Act → World → Prop} (hgd : o.guard = none) (s x : Operand) (ho : o.op = .call { callee := .builtin .append, args := #[s, x], argTypes := #[26, 26] })
    (base : Nat) (v : Value) (n : Nat) (xs : List Value) (hs : a.eval s = v) (hown : w.ownsRow base 82 4 v n xs) (g c : Nat) (news : List Value) (hx : a.eval x = .slice (some ⟨g, 0, none⟩) 1 c) (hl : news.length = 4) (hh : Has w g 82 news.toArray) (h1 : ∀ u ∈ news, u.oneCell' = true) (h63 : n ≤ 10000000) (hbase : base ≤ w.heap.size)
    (h : ∀ a' c' w', w'.ownsRow base 82 4 (.slice a' (n + 1) c') (n + 1) (xs ++ news) → w.grownBy w' v.ownBlock → wpList Try.prog ops Q rest (a.put o.dst (.slice a' (n + 1) c')) w') : wpList Try.prog ops Q (o :: rest) a w :=
  wpList_plain hgd fun _ hK => wp_append_row s x 26 82 ho _ 4 40 Try.info_symbol Try.underlying26 rfl (by decide) (by decide) base v n xs hs hown (some ⟨g, 0, none⟩) 1 c news hx (by omega) (fun _ => ⟨g, 0, rfl, fun j u hj => by rw [Nat.zero_add, hh.cell, List.getElem?_toArray]; exact hj⟩) h1 (by omega) hbase fun v' w' h2 h3 => by
    obtain ⟨a', c', rfl⟩ := own_shape h2
    exact hK _ _ (h a' c' w' h2 h3)
/-- An empty list that was made so. -/
theorem empty_row (w : World) (base : Nat) (T : TypeId) (size : Nat) (hb : base ≤ w.heap.size) : (w.alloc (.cells #[] T)).ownsRow base T size (.slice (some ⟨w.heap.size, 0, none⟩) 0 0) 0 [] :=
  World.ownsRow_lit (base := base) (e := T) (size := size) w #[] 0 hb (by unfold maxLen; omega) (by simp)
/-- A fixup with another symbol. -/
def Fx.re (f : Fx) (z : Int) : Fx := ⟨f.pl, f.kind, z, f.add⟩
theorem flatF_set : ∀ (fs : List Fx) (j : Nat) (f : Fx) (z : Int), fs[j]? = some f → (flatF fs).set (j * 4 + 2) (.int .i64 z) = flatF (fs.set j (f.re z))
  | [], _, _, _, h => by simp at h
  | x :: r, 0, f, z, h => by simp at h; subst h; simp [flatF, Fx.re]
  | x :: r, j + 1, f, z, h => by
    have ih := flatF_set r j f z (by simpa using h)
    have e : ∀ x r, flatF (x :: r) = .int .i64 x.pl :: .int .i64 x.kind :: .int .i64 x.to :: .int .i64 x.add :: flatF r := fun x r => by simp [flatF]
    have e1 : (j + 1) * 4 + 2 = j * 4 + 2 + 1 + 1 + 1 + 1 := by omega
    rw [List.set_cons_succ, e, e, e1]
    simp only [List.set_cons_succ]
    rw [ih]
theorem flatM_set : ∀ (ms : List Sm) (j : Nat) (m : Sm) (z : Int), ms[j]? = some m → (flatM ms).set (j * 4 + 1) (.int .i64 z) = flatM (ms.set j { m with bind := z })
  | [], _, _, _, h => by simp at h
  | x :: r, 0, f, z, h => by simp at h; subst h; simp [flatM]
  | x :: r, j + 1, f, z, h => by
    have ih := flatM_set r j f z (by simpa using h)
    have e : ∀ x r, flatM (x :: r) = .string x.name :: .int .i64 x.bind :: .int .i64 x.loc :: .int .i64 x.value :: flatM r := fun x r => by simp [flatM]
    have e1 : (j + 1) * 4 + 1 = j * 4 + 1 + 1 + 1 + 1 + 1 := by omega
    rw [List.set_cons_succ, e, e, e1]
    simp only [List.set_cons_succ]
    rw [ih]
/-- A section with a fixup's symbol changed. -/
def Sp.to (y : Sp) (j : Nat) (f : Fx) (z : Int) : Sp := ⟨{ y.s with fixs := y.s.fixs.set j (f.re z) }, y.a1, y.c1, y.a2, y.c2⟩
theorem flatS_to : ∀ (l : List Sp) (k : Nat) (y : Sp) (j : Nat) (f : Fx) (z : Int), l[k]? = some y → flatS (l.set k (y.to j f z)) = flatS l
  | [], _, _, _, _, _, h => by simp at h
  | x :: r, 0, y, j, f, z, h => by simp at h; subst h; simp [flatS, Sp.to]
  | x :: r, k + 1, y, j, f, z, h => by
    have ih := flatS_to r k y j f z (by simpa using h)
    have e : ∀ x r, flatS (x :: r) = .string x.s.name :: .int .i64 x.s.kind :: .int .i64 x.s.align :: .slice x.a1 x.s.bytes.length x.c1 :: .int .i64 x.s.size :: .slice x.a2 x.s.fixs.length x.c2 :: flatS r := fun x r => by simp [flatS]
    rw [List.set_cons_succ, e, e, ih]
theorem apart_to {l : List Sp} {k : Nat} {y : Sp} (j : Nat) (f : Fx) (z : Int) (hk : l[k]? = some y) (h : l.Pairwise ListsApart) : (l.set k (y.to j f z)).Pairwise ListsApart := by
  have key : ∀ q : List Sp, q.Pairwise ListsApart ↔ (q.map fun u => (u.a1, u.a2)).Pairwise fun p p' => (p.1 = none ∨ p.1 ≠ p'.1) ∧ (p.2 = none ∨ p.2 ≠ p'.2) := fun q => by
    rw [List.pairwise_map]; exact Iff.rfl
  rw [key] at h ⊢
  have e : (l.set k (y.to j f z)).map (fun u => (u.a1, u.a2)) = l.map fun u => (u.a1, u.a2) := by
    apply List.ext_getElem?
    intro i
    rw [List.getElem?_map, List.getElem?_map, List.getElem?_set]
    split
    · rename_i e
      subst e
      have hl := (List.getElem?_eq_some_iff.1 hk).1
      rw [if_pos hl, hk]
      rfl
    · rfl
  rw [e]; exact h
/-- A fixup's symbol is changed in place. -/
theorem SR.setTo {W : World} {base : Nat} {v : Value} {l : List Sp} (h : SR W base v l) {k j : Nat} {y : Sp} {f : Fx} (hk : l[k]? = some y) (hj : y.s.fixs[j]? = some f) :
    ∃ g, y.a2 = some ⟨g, 0, none⟩ ∧ base ≤ g ∧ (∃ cs, Has W g 119 cs) ∧ W.cell? ⟨g, j * 4 + 2, none⟩ = some (.int .i64 f.to) ∧
      ∀ z, SR (W.setCell ⟨g, j * 4 + 2, none⟩ (.int .i64 z)) base v (l.set k (y.to j f z)) := by
  have hym := List.mem_of_getElem? hk
  have hjl : j < y.s.fixs.length := (List.getElem?_eq_some_iff.1 hj).1
  have h2 := h.own2 y hym
  rcases h2.2 with ⟨_, h0⟩ | ⟨g, cap, cur, hv, hgb, hh, _⟩
  · omega
  have hh' : Has W g 119 cur := hh
  injection hv with ha _ hc
  have h2' : W.ownsRow base 119 4 (.slice (some ⟨g, 0, none⟩) y.s.fixs.length y.c2) y.s.fixs.length (flatF y.s.fixs) := by rw [← ha]; exact h2
  refine ⟨g, ha, hgb, ⟨cur, hh'⟩, ?_, fun z => ?_⟩
  · rw [h2'.cellAt (j * 4 + 2) (by omega)]; exact (flatF_at _ _ _ hj).2.2.1
  · obtain ⟨s1, hg⟩ := h2'.stored (j * 4 + 2) (.int .i64 z)
    rw [flatF_set _ _ _ z hj] at s1
    have hfl : (y.to j f z).s.fixs.length = y.s.fixs.length := by simp [Sp.to]
    refine ⟨?_, fun u hu => ?_, fun u hu => ?_, fun u hu => ?_, apart_to j f z hk h.apart⟩
    · rw [List.length_set, flatS_to _ _ _ _ _ z hk]
      exact h.row.kept hg (row_apart h.row hh' (by decide))
    · rcases List.mem_or_eq_of_mem_set hu with hu | rfl
      · exact h.wf u hu
      · exact h.wf y hym
    · rcases List.mem_or_eq_of_mem_set hu with hu | rfl
      · exact (h.own1 u hu).kept hg (row_apart (h.own1 u hu) hh' (by decide))
      · exact (h.own1 y hym).kept hg (row_apart (h.own1 y hym) hh' (by decide))
    · obtain ⟨i, hi⟩ := List.mem_iff_getElem?.1 hu
      rw [List.getElem?_set] at hi
      split at hi
      · split at hi
        · injection hi with hi
          subst hi
          rw [hfl]
          show World.ownsRow _ base _ 4 (.slice y.a2 _ y.c2) _ _
          rw [ha]; exact s1
        · cases hi
      · rename_i hne
        have hum := List.mem_of_getElem? hi
        refine (h.own2 u hum).kept hg ?_
        rcases (h.own2 u hum).2 with ⟨e, _⟩ | ⟨g', cap', cur', e, _⟩
        · rw [e]; exact .inl rfl
        · rw [e]
          refine .inr fun e2 => ?_
          simp only [Value.ownBlock, Option.some.injEq] at e2
          injection e with e3 _ _
          have hsame : u.a2 = y.a2 := by rw [e3, ha, e2]
          have hyn : y.a2 ≠ none := by rw [ha]; exact fun e => by cases e
          have hil := (List.getElem?_eq_some_iff.1 hi)
          have hkl := (List.getElem?_eq_some_iff.1 hk)
          rcases Nat.lt_or_ge i k with hlt | hge
          · have := (List.pairwise_iff_getElem.1 h.apart i k hil.1 hkl.1 hlt).2
            rw [hil.2, hkl.2] at this
            rcases this with q | q
            · rw [hsame] at q; exact hyn q
            · exact q hsame
          · have := (List.pairwise_iff_getElem.1 h.apart k i hkl.1 hil.1 (by omega)).2
            rw [hil.2, hkl.2] at this
            rcases this with q | q
            · exact hyn q
            · exact q hsame.symm
/-- An object in memory, in rows of its own. -/
structure Ob (W : World) (q lo : Nat) (vs vm : Value) (ss : List Sp) (ms : List Sm) : Prop where
  obj : Has W q 29 #[vs, vm]
  secs : SR W lo vs ss
  syms : W.ownsRow lo 82 4 vm ms.length (flatM ms)
section
variable {W W' : World} {q lo : Nat} {vs vm : Value} {ss : List Sp} {ms : List Sm}
theorem Ob.kept (h : Ob W q lo vs vm ss ms) (hg : W.grownBy W' none) : Ob W' q lo vs vm ss ms :=
  ⟨h.obj.grown hg (by simp), h.secs.kept hg, h.syms.kept hg (Classical.em _)⟩
theorem Ob.only (h : Ob W q lo vs vm ss ms) (hb : Below W.heap.size W W') : Ob W' q lo vs vm ss ms := h.kept (grown_only hb)
theorem Ob.alloc (h : Ob W q lo vs vm ss ms) (o : Obj) : Ob (W.alloc o) q lo vs vm ss ms := h.only ((Below.refl _ _).alloc (Nat.le_refl _) o)
theorem Ob.drew (h : Ob W q lo vs vm ss ms) : Ob W.drew q lo vs vm ss ms := h.only ⟨rfl, rfl, rfl, Nat.le_refl _, fun _ _ => rfl⟩
/-- Another list of symbols, which lies in a row of its own. -/
theorem Ob.putM (h : Ob W q lo vs vm ss ms) {v' : Value} {ms' : List Sm} (hr : W.ownsRow lo 82 4 v' ms'.length (flatM ms')) : Ob (W.setCell ⟨q, 1, none⟩ v') q lo vs v' ss ms' :=
  have hg : W.grownBy (W.setCell ⟨q, 1, none⟩ v') (some q) := only_put' 1 _
  ⟨h.obj.put 1 _, h.secs.other h.obj (by decide) (by decide) (by decide) hg, hr.kept hg (row_apart hr h.obj (by decide))⟩
/-- A symbol is put behind the others, and the list is stored. -/
theorem Ob.appM (h : Ob W q lo vs vm ss ms) {v' : Value} {m : Sm} (hg0 : W.grownBy W' vm.ownBlock)
    (hr : W'.ownsRow lo 82 4 v' (ms.length + 1) (flatM ms ++ [.string m.name, .int .i64 m.bind, .int .i64 m.loc, .int .i64 m.value])) :
    Has W' q 29 #[vs, vm] ∧ Ob (W'.setCell ⟨q, 1, none⟩ v') q lo vs v' ss (ms ++ [m]) := by
  have ho : Has W' q 29 #[vs, vm] := h.obj.grown hg0 (h.obj.other h.syms (by decide))
  have hg : W'.grownBy (W'.setCell ⟨q, 1, none⟩ v') (some q) := only_put' 1 _
  have hss := h.secs.row' h.syms (by decide) (by decide) (by decide) hg0
  refine ⟨ho, ho.put 1 _, hss.other ho (by decide) (by decide) (by decide) hg, ?_⟩
  rw [flatM_snoc, List.length_append]
  exact World.ownsRow.kept hr hg (row_apart hr ho (by decide))
/-- A section is put behind the others, and the list is stored. -/
theorem Ob.appS {wb : World} (hro : Ob wb q lo vs vm ss ms) (hlo : lo ≤ wb.heap.size) (hbe : Below wb.heap.size wb W) {y : Sp}
    (h1 : W.ownsRow wb.heap.size 5 1 (.slice y.a1 y.s.bytes.length y.c1) y.s.bytes.length (y.s.bytes.map (Value.int .u8))) (h2 : W.ownsRow wb.heap.size 119 4 (.slice y.a2 y.s.fixs.length y.c2) y.s.fixs.length (flatF y.s.fixs))
    (hwf : ∀ x ∈ y.s.bytes, (Lit.int .u8 x).wf = true) {v' : Value} (hg0 : W.grownBy W' vs.ownBlock)
    (hr : W'.ownsRow lo 42 6 v' (ss.length + 1) (flatS ss ++ [.string y.s.name, .int .i64 y.s.kind, .int .i64 y.s.align, .slice y.a1 y.s.bytes.length y.c1, .int .i64 y.s.size, .slice y.a2 y.s.fixs.length y.c2])) :
    Has W' q 29 #[vs, vm] ∧ Ob (W'.setCell ⟨q, 0, none⟩ v') q lo v' vm (ss ++ [y]) ms := by
  have hw := hro.only hbe
  have ho : Has W' q 29 #[vs, vm] := hw.obj.grown hg0 (hw.obj.other hw.secs.row (by decide))
  have hg : W'.grownBy (W'.setCell ⟨q, 0, none⟩ v') (some q) := only_put' 0 _
  have hsy : W'.ownsRow lo 82 4 vm ms.length (flatM ms) := hw.syms.kept hg0 (rows_apart hw.syms hw.secs.row (by decide))
  have hss : SR W' lo v' (ss ++ [y]) := hw.secs.app (hro.secs.later (Nat.le_refl _) h1 h2) hwf (row_lower h1 hlo) (row_lower h2 hlo) hr hg0
  exact ⟨ho, ho.put 0 _, hss.other ho (by decide) (by decide) (by decide) hg, hsy.kept hg (row_apart hsy ho (by decide))⟩
/-- Another object's place is written. -/
theorem Ob.away (h : Ob W q lo vs vm ss ms) {b : Nat} {cs : Array Value} (hh : Has W b 29 cs) (hb : q ≠ b) (i : Nat) (u : Value) : Ob (W.setCell ⟨b, i, none⟩ u) q lo vs vm ss ms :=
  have hg : W.grownBy (W.setCell ⟨b, i, none⟩ u) (some b) := only_put' i u
  ⟨h.obj.away hb u, h.secs.other hh (by decide) (by decide) (by decide) hg, h.syms.kept hg (row_apart h.syms hh (by decide))⟩
/-- A fixup's symbol is changed in place. -/
theorem Ob.setTo (h : Ob W q lo vs vm ss ms) {k j : Nat} {y : Sp} {f : Fx} (hk : ss[k]? = some y) (hj : y.s.fixs[j]? = some f) :
    ∃ g, y.a2 = some ⟨g, 0, none⟩ ∧ lo ≤ g ∧ g < W.heap.size ∧ W.cell? ⟨g, j * 4 + 2, none⟩ = some (.int .i64 f.to) ∧ W.frozen? ⟨g, j * 4 + 2, none⟩ = false ∧ (∃ cs, Has W g 119 cs) ∧
      ∀ z, Ob (W.setCell ⟨g, j * 4 + 2, none⟩ (.int .i64 z)) q lo vs vm (ss.set k (y.to j f z)) ms ∧ W.grownBy (W.setCell ⟨g, j * 4 + 2, none⟩ (.int .i64 z)) (some g) := by
  obtain ⟨g, h1, h2, ⟨cs, h3⟩, h4, h5⟩ := h.secs.setTo hk hj
  refine ⟨g, h1, h2, h3.lt, h4, h3.free _, ⟨cs, h3⟩, fun z => ?_⟩
  have hg : W.grownBy (W.setCell ⟨g, j * 4 + 2, none⟩ (.int .i64 z)) (some g) := only_put' _ _
  exact ⟨⟨h.obj.away (h.obj.differ h3 (by decide)) _, h5 z, h.syms.kept hg (row_apart h.syms h3 (by decide))⟩, hg⟩
/-- A symbol's binding is changed in place. -/
theorem Ob.setBind (h : Ob W q lo vs vm ss ms) {k : Nat} {m : Sm} (hk : ms[k]? = some m) :
    ∃ g c, vm = .slice (some ⟨g, 0, none⟩) ms.length c ∧ lo ≤ g ∧ g < W.heap.size ∧ (∀ i, W.frozen? ⟨g, i, none⟩ = false) ∧ W.cell? ⟨g, k * 4 + 1, none⟩ = some (.int .i64 m.bind) ∧
      ∀ z, Ob (W.setCell ⟨g, k * 4 + 1, none⟩ (.int .i64 z)) q lo vs vm ss (ms.set k { m with bind := z }) ∧ W.grownBy (W.setCell ⟨g, k * 4 + 1, none⟩ (.int .i64 z)) (some g) := by
  have hkl : k < ms.length := (List.getElem?_eq_some_iff.1 hk).1
  have h2 := h.syms
  rcases h2.2 with ⟨_, h0⟩ | ⟨g, cap, cur, rfl, hgb, hh, _⟩
  · omega
  have hh' : Has W g 82 cur := hh
  refine ⟨g, cap, rfl, hgb, hh'.lt, hh'.free, ?_, fun z => ?_⟩
  · rw [h2.cellAt (k * 4 + 1) (by omega)]; exact (flatM_at _ _ _ hk).2.1
  obtain ⟨s1, hg⟩ := h2.stored (k * 4 + 1) (.int .i64 z)
  rw [flatM_set _ _ _ z hk] at s1
  refine ⟨⟨h.obj.away (h.obj.differ hh' (by decide)) _, ?_, by rw [List.length_set]; exact s1⟩, hg⟩
  exact h.secs.other hh' (by decide) (by decide) (by decide) hg
end
/-- What is answered: an object in rows of its own. -/
def AnsO (w : World) (A : List Sx × List Sm) (e : Ending) (w' : World) : Prop :=
  ∃ (l : List Sp) (a1 a2 : Option Addr) (c1 c2 : Nat), e = .returned (.agg #[.slice a1 l.length c1, .slice a2 A.2.length c2]) ∧ l.map Sp.s = A.1 ∧ OwnR w' w.heap.size a1 a2 l.length A.2.length c1 c2 l A.2 ∧ Below w.heap.size w w'
theorem ansO_none (w w' : World) (hb : Below w.heap.size w w') : AnsO w ([], []) (.returned (.agg #[.slice none 0 0, .slice none 0 0])) w' :=
  ⟨[], none, none, 0, 0, rfl, rfl, ⟨hb.size, rfl, rfl, SR.nil _ _, World.ownsRow_nil _ _ _ _⟩, hb⟩
theorem Ob.ans {w W : World} {q : Nat} {a1 a2 : Option Addr} {n m c1 c2 : Nat} {ss : List Sp} {ms : List Sm} (h : Ob W q w.heap.size (.slice a1 n c1) (.slice a2 m c2) ss ms) (hb : Below w.heap.size w W) (hn : n = ss.length) (hm : m = ms.length) :
    AnsO w (ss.map Sp.s, ms) (.returned (.agg #[.slice a1 n c1, .slice a2 m c2])) W := by
  subst hn; subst hm
  exact ⟨ss, a1, a2, c1, c2, rfl, rfl, ⟨hb.size, rfl, rfl, h.secs, h.syms⟩, hb⟩

end Go.Proofs.Ytiocchmlmcoieaa

/-
  Rows of fixups and of sections, cell by cell.
-/
import Derived.Test.YtdmdjlnpbmiadaaSecs
namespace Go.Proofs.Ytdmdjlnpbmiadaa
open Go.RowKit

theorem row_lower {w : World} {base base' : Nat} {e : TypeId} {size : Nat} {v : Value} {n : Nat} {xs : List Value} (h : w.ownsRow base e size v n xs) (hb : base' ≤ base) : w.ownsRow base' e size v n xs :=
  ⟨h.1, h.2.imp id fun ⟨g, cap, cur, h1, h2, h3⟩ => ⟨g, cap, cur, h1, Nat.le_trans hb h2, h3⟩⟩
theorem row_apart {W : World} {base : Nat} {T T' : TypeId} {size : Nat} {v : Value} {n : Nat} {xs : List Value} {b : Nat} {cs : Array Value} (ho : W.ownsRow base T size v n xs) (hh : Has W b T' cs) (hne : T ≠ T') : v.ownBlock = none ∨ v.ownBlock ≠ some b := by
  rcases ho.2 with ⟨rfl, _⟩ | ⟨k, cap, cur, rfl, _, hk, _⟩
  · exact .inl rfl
  · refine .inr fun e => ?_
    have e' : k = b := by simpa [Value.ownBlock] using e
    subst e'
    unfold Has at hh
    rw [hh] at hk
    injection hk with hk
    injection hk with _ h2
    exact hne h2.symm
theorem row_high {W : World} {base : Nat} {T : TypeId} {size : Nat} {v : Value} {n : Nat} {xs : List Value} {b : Nat} (ho : W.ownsRow base T size v n xs) (hb : b < base) : v.ownBlock = none ∨ v.ownBlock ≠ some b := by
  cases e : v.ownBlock with
  | none => exact .inl rfl
  | some k => exact .inr fun e2 => by injection e2 with e2; have := (ho.lt k e).1; omega
/-- The cells of fixups, one behind the other. -/
def flatF (fs : List Fx) : List Value := fs.flatMap fun f => [.int .i64 f.pl, .int .i64 f.kind, .int .i64 f.to, .int .i64 f.add]
theorem flatF_length (fs : List Fx) : (flatF fs).length = fs.length * 4 := by
  induction fs with
  | nil => rfl
  | cons f r ih => simp only [flatF, List.flatMap_cons, List.length_append] at *; rw [ih]; simp; omega
theorem flatF_snoc (fs : List Fx) (f : Fx) : flatF (fs ++ [f]) = flatF fs ++ [.int .i64 f.pl, .int .i64 f.kind, .int .i64 f.to, .int .i64 f.add] := by
  simp [flatF]
theorem flatF_at : ∀ (fs : List Fx) (i : Nat) (f : Fx), fs[i]? = some f →
    (flatF fs)[i * 4]? = some (.int .i64 f.pl) ∧ (flatF fs)[i * 4 + 1]? = some (.int .i64 f.kind) ∧ (flatF fs)[i * 4 + 2]? = some (.int .i64 f.to) ∧ (flatF fs)[i * 4 + 3]? = some (.int .i64 f.add)
  | [], _, _, h => by simp at h
  | x :: r, 0, f, h => by simp at h; subst h; simp [flatF]
  | x :: r, i + 1, f, h => by
    have ih := flatF_at r i f (by simpa using h)
    have e : flatF (x :: r) = .int .i64 x.pl :: .int .i64 x.kind :: .int .i64 x.to :: .int .i64 x.add :: flatF r := by simp [flatF]
    have e1 : (i + 1) * 4 = i * 4 + 1 + 1 + 1 + 1 := by omega
    rw [e, e1]
    simpa [List.getElem?_cons_succ, Nat.add_assoc] using ih

















theorem addr_row (b j : Nat) : (⟨b, 0, none⟩ : Addr).add j = ⟨b, j, none⟩ := by
  have e : (⟨b, 0, none⟩ : Addr).add j = ⟨b, 0 + j, none⟩ := by unfold Addr.add; split <;> simp_all
  rw [e, Nat.zero_add]
/-- The cells of sections, one behind the other. -/
def flatS (l : List Sp) : List Value := l.flatMap fun y => [.string y.s.name, .int .i64 y.s.kind, .int .i64 y.s.align, .slice y.a1 y.s.bytes.length y.c1, .int .i64 y.s.size, .slice y.a2 y.s.fixs.length y.c2]
theorem flatS_length (l : List Sp) : (flatS l).length = l.length * 6 := by
  induction l with
  | nil => rfl
  | cons f r ih => simp only [flatS, List.flatMap_cons, List.length_append] at *; rw [ih]; simp; omega
theorem flatS_snoc (l : List Sp) (y : Sp) : flatS (l ++ [y]) = flatS l ++ [.string y.s.name, .int .i64 y.s.kind, .int .i64 y.s.align, .slice y.a1 y.s.bytes.length y.c1, .int .i64 y.s.size, .slice y.a2 y.s.fixs.length y.c2] := by
  simp [flatS]
theorem flatS_at : ∀ (l : List Sp) (i : Nat) (y : Sp), l[i]? = some y →
    (flatS l)[i * 6]? = some (.string y.s.name) ∧ (flatS l)[i * 6 + 1]? = some (.int .i64 y.s.kind) ∧ (flatS l)[i * 6 + 2]? = some (.int .i64 y.s.align) ∧ (flatS l)[i * 6 + 3]? = some (.slice y.a1 y.s.bytes.length y.c1) ∧ (flatS l)[i * 6 + 4]? = some (.int .i64 y.s.size) ∧ (flatS l)[i * 6 + 5]? = some (.slice y.a2 y.s.fixs.length y.c2)
  | [], _, _, h => by simp at h
  | x :: r, 0, y, h => by simp at h; subst h; simp [flatS]
  | x :: r, i + 1, y, h => by
    have ih := flatS_at r i y (by simpa using h)
    have e : flatS (x :: r) = .string x.s.name :: .int .i64 x.s.kind :: .int .i64 x.s.align :: .slice x.a1 x.s.bytes.length x.c1 :: .int .i64 x.s.size :: .slice x.a2 x.s.fixs.length x.c2 :: flatS r := by simp [flatS]
    have e1 : (i + 1) * 6 = i * 6 + 1 + 1 + 1 + 1 + 1 + 1 := by omega
    rw [e, e1]
    simpa [List.getElem?_cons_succ, Nat.add_assoc] using ih
theorem rows_apart {W : World} {base base' : Nat} {T T' : TypeId} {size size' : Nat} {v v' : Value} {n n' : Nat} {xs xs' : List Value} (h : W.ownsRow base T size v n xs) (h' : W.ownsRow base' T' size' v' n' xs') (hne : T ≠ T') : v.ownBlock = none ∨ v.ownBlock ≠ v'.ownBlock := by
  rcases h.2 with ⟨rfl, _⟩ | ⟨k, cap, cur, rfl, _, hk, _⟩
  · exact .inl rfl
  · refine .inr fun e => ?_
    have hk' : Has W k T cur := hk
    rcases row_apart h' hk' hne.symm with h2 | h2
    · rw [h2] at e; simp [Value.ownBlock] at e
    · exact h2 (by rw [← e]; simp [Value.ownBlock])
/-- Symbols in a row of its own. -/
def flatM (l : List Sm) : List Value := l.flatMap fun m => [.string m.name, .int .i64 m.bind, .int .i64 m.loc, .int .i64 m.value]
theorem flatM_length (l : List Sm) : (flatM l).length = l.length * 4 := by
  induction l with
  | nil => rfl
  | cons f r ih => simp only [flatM, List.flatMap_cons, List.length_append] at *; rw [ih]; simp; omega
theorem flatM_snoc (l : List Sm) (m : Sm) : flatM (l ++ [m]) = flatM l ++ [.string m.name, .int .i64 m.bind, .int .i64 m.loc, .int .i64 m.value] := by
  simp [flatM]
theorem flatM_at : ∀ (l : List Sm) (i : Nat) (m : Sm), l[i]? = some m →
    (flatM l)[i * 4]? = some (.string m.name) ∧ (flatM l)[i * 4 + 1]? = some (.int .i64 m.bind) ∧ (flatM l)[i * 4 + 2]? = some (.int .i64 m.loc) ∧ (flatM l)[i * 4 + 3]? = some (.int .i64 m.value)
  | [], _, _, h => by simp at h
  | x :: r, 0, m, h => by simp at h; subst h; simp [flatM]
  | x :: r, i + 1, m, h => by
    have ih := flatM_at r i m (by simpa using h)
    have e : flatM (x :: r) = .string x.name :: .int .i64 x.bind :: .int .i64 x.loc :: .int .i64 x.value :: flatM r := by simp [flatM]
    have e1 : (i + 1) * 4 = i * 4 + 1 + 1 + 1 + 1 := by omega
    rw [e, e1]
    simpa [List.getElem?_cons_succ, Nat.add_assoc] using ih














end Go.Proofs.Ytdmdjlnpbmiadaa

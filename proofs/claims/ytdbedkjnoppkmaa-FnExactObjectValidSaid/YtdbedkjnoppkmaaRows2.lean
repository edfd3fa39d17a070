/-
  Rows that are appended to inside a region that draws its order: the types of such a region's slots.
-/
import Derived.Test.YtdbedkjnoppkmaaRegionB
import Derived.Test.YtdbedkjnoppkmaaVals
namespace Go.Proofs.Ytdbedkjnoppkmaa
open Go.RowKit

/-- append onto a row of the call's own, the source's cells known one by one. -/
theorem wp_append_cells {P : Program} {o : Oper} {a : Act} {w : World} {K : Act → World → Prop} {Q : Exit → Act → World → Prop} (s x : Operand) (t e : TypeId)
    (ho : o.op = .call { callee := .builtin .append, args := #[s, x], argTypes := #[t, t] }) (base : Nat) (z : Value) (bytes : Nat)
    (hinfo : (P.info? e).map (fun i => (i.zero, i.size, i.bytes)) = some (some z, 1, bytes)) (ht : P.underlying t = some (.slice e)) (hz1 : z.cells.size = 1)
    (v : Value) (n : Nat) (xs : List Value) (hs : a.eval s = v) (hown : w.ownsRow base e 1 v n xs)
    (b off m c : Nat) (news : List Value) (hx : a.eval x = .slice (some ⟨b, off, none⟩) m c) (hl : news.length = m) (hnews : ∀ j u, news[j]? = some u → w.cell? ⟨b, off + j, none⟩ = some u) (h1 : ∀ u ∈ news, u.oneCell' = true)
    (h63 : n + m ≤ 1000000) (hbytes : bytes ≤ 1000) (hbase : base ≤ w.heap.size)
    (h : ∀ v' w', w'.ownsRow base e 1 v' (n + m) (xs ++ news) → w.grownBy w' v.ownBlock → K (a.put o.dst v') w') : o.wp P a w K Q := by
  obtain ⟨i, hi, hz, hsz, hby⟩ := info_parts hinfo
  have hmul : (n + m) * bytes ≤ 140737488355328 := Nat.le_trans (Nat.mul_le_mul h63 hbytes) (by decide)
  refine wp_append_own w s x t ho base e i z 1 bytes ht hi hz hsz hby hz1 (by decide) v n xs hs hown ⟨b, off, none⟩ m c news hx (by omega) (fun j u hj => ?_) h1 (by unfold maxLen; omega) hmul hbase (fun v' w' h2 h3 _ => h v' w' h2 h3)
  have e : (⟨b, off, none⟩ : Addr).add j = ⟨b, off + j, none⟩ := by unfold Addr.add; split <;> simp_all
  rw [e]; exact hnews j u hj

/-- The types of such a region's slots: a known value; a new row without cells; a row of the call's own; a new row of one cell; a part of a slice that was there. -/
inductive TyB where
  | any
  | val (v : Value)
  | empty
  | row (vs : List Value)
  | one (u : Value)
  | part (vs : List Value)
def TyB.has (base : Nat) (T : TypeId) : TyB → World → Value → Prop
  | .any, _, _ => True
  | .val u, _, v => v = u
  | .empty, w, v => ∃ g, v = .slice (some ⟨g, 0, none⟩) 0 0 ∧ base ≤ g ∧ Has w g T #[]
  | .row vs, w, v => w.ownsRow base T 1 v vs.length vs
  | .one u, w, v => ∃ h, v = .slice (some ⟨h, 0, none⟩) 1 1 ∧ base ≤ h ∧ Has w h T #[u]
  | .part vs, w, v => ∃ b off c, v = .slice (some ⟨b, off, none⟩) vs.length c ∧ b < base ∧ ∀ i u, vs[i]? = some u → w.cell? ⟨b, off + i, none⟩ = some u
theorem TyB.alloc {base : Nat} {T : TypeId} {w : World} (hb : base ≤ w.heap.size) (o : Obj) : ∀ (t : TyB) (v : Value), t.has base T w v → t.has base T (w.alloc o) v
  | .any, _, _ => trivial
  | .val _, _, h => h
  | .empty, _, ⟨g, h1, h2, h3⟩ => ⟨g, h1, h2, h3.alloc o⟩
  | .row _, _, h => World.ownsRow.alloc h o
  | .one _, _, ⟨g, h1, h2, h3⟩ => ⟨g, h1, h2, h3.alloc o⟩
  | .part _, _, ⟨b, off, c, h1, h2, h3⟩ => ⟨b, off, c, h1, h2, fun i u hi => (World.cell?_alloc_lt w o _ (by show b < _; omega)).trans (h3 i u hi)⟩
/-- An append onto the new row without cells: what it leaves of the others. -/
theorem TyB.first {base : Nat} {T : TypeId} {w w' : World} {g : Nat} (hg : w.grownBy w' (some g)) (hbg : base ≤ g) (hb : base ≤ w.heap.size) (hh : Has w g T #[]) : ∀ (t : TyB) (v : Value), (match t with | .val _ => True | .part _ => True | .one _ => True | .any => True | _ => False) → t.has base T w v → t.has base T w' v
  | .any, _, _, _ => trivial
  | .val _, _, _, h => h
  | .empty, _, h, _ => h.elim
  | .row _, _, h, _ => h.elim
  | .one _, _, _, ⟨h, h1, h2, h3⟩ => ⟨h, h1, h2, h3.grown hg (fun e => by
      injection e with e
      subst e
      unfold Has at hh h3
      rw [hh] at h3
      injection h3 with h3
      injection h3 with h3
      simp at h3)⟩
  | .part _, _, _, ⟨b, off, c, h1, h2, h3⟩ => ⟨b, off, c, h1, h2, fun i u hi => (World.cell?_of_block (hg.block b (by omega) (fun e => by injection e with e; omega))).trans (h3 i u hi)⟩
/-- An append onto any row of the call's own. -/
theorem TyB.next {base : Nat} {T : TypeId} {w w' : World} {row : Option Nat} (hg : w.grownBy w' row) (hr : ∀ g, row = some g → base ≤ g) (hb : base ≤ w.heap.size) : ∀ (t : TyB) (v : Value), (match t with | .val _ => True | .part _ => True | .any => True | _ => False) → t.has base T w v → t.has base T w' v
  | .any, _, _, _ => trivial
  | .val _, _, _, h => h
  | .empty, _, h, _ => h.elim
  | .row _, _, h, _ => h.elim
  | .one _, _, h, _ => h.elim
  | .part _, _, _, ⟨b, off, c, h1, h2, h3⟩ => ⟨b, off, c, h1, h2, fun i u hi => (World.cell?_of_block (hg.block b (by omega) (fun e => by have := hr b e.symm; omega))).trans (h3 i u hi)⟩
def TypedB (base : Nat) (T : TypeId) (tys : List TyB) (i : Nat) (w : World) (v : Value) : Prop := (tys.getD i .any).has base T w v

end Go.Proofs.Ytdbedkjnoppkmaa

import Derived.WalkSpells
import Derived.WalkLawsBesides
import Derived.Handy
import Derived.Deep.QuietTactic
import Derived.BigQuiet
import Derived.Laws.BitsAllLaws
import Derived.Laws.BitsLemmas
import Derived.Orders
import Derived.BigRegion
import Derived.Test.YtpfombelhajmlaaGreatDoorMem
import Derived.Test.YtpfombelhajmlaaGreatDoorRows
namespace Go.Proofs.YtpfombelhajmlaaGreatDoor
open Go.RowKit
def Rd (w : World) (B g : Nat) (P : Int) : Prop :=
  B ≤ g ∧ ∃ (a : Option Addr) (cap : Nat) (l : List Int) (p : Nat), Has w g 83 #[.slice a l.length cap, .int .i64 p] ∧ Ints w .u8 B a l ∧ l.length ≤ 2000 ∧ (p : Int) ≤ P
section
variable {w w' : World} {B g : Nat} {P P' : Int}
theorem Rd.lt (h : Rd w B g P) : g < w.heap.size := by
  obtain ⟨_, _, _, _, _, hh, _⟩ := h
  exact hh.lt
theorem Rd.alloc (h : Rd w B g P) (o : Obj) : Rd (w.alloc o) B g P := by
  have hlt := h.lt
  obtain ⟨hB, a, cap, l, p, hh, hi, hl, hp⟩ := h
  exact ⟨hB, a, cap, l, p, hh.alloc o, hi.alloc (by omega) o, hl, hp⟩
theorem Rd.drewN (h : Rd w B g P) (n : Nat) : Rd (w.drewN n) B g P := h
theorem Rd.mono (h : Rd w B g P) (hP : P ≤ P') : Rd w B g P' := by
  obtain ⟨hB, a, cap, l, p, hh, hi, hl, hp⟩ := h
  exact ⟨hB, a, cap, l, p, hh, hi, hl, by omega⟩
theorem Rd.grown (h : Rd w B g P) {row : Option Nat} (hg : w.grownBy w' row) (hr : ∀ k, row = some k → B ≤ k ∧ k ≠ g) : Rd w' B g P := by
  have hlt := h.lt
  obtain ⟨hB, a, cap, l, p, hh, hi, hl, hp⟩ := h
  refine ⟨hB, a, cap, l, p, hh.grown hg (fun e => (hr g e.symm).2 rfl), hi.keep fun q hq => World.cell?_of_block (hg.block q.block (by omega) (fun e => by have := (hr _ e.symm).1; omega)), hl, hp⟩
theorem Rd.below (h : Rd w B g P) {C : Nat} (hb : Below C w w') (hC : g < C) : Rd w' B g P := by
  obtain ⟨hB, a, cap, l, p, hh, hi, hl, hp⟩ := h
  exact ⟨hB, a, cap, l, p, hh.below hb hC, hi.below (hb.mono (by omega)), hl, hp⟩
end
end Go.Proofs.YtpfombelhajmlaaGreatDoor
namespace Go.Proofs.YtpfombelhajmlaaGreatDoor
open Go.RowKit
section
variable {P : Program} {ops : Array Oper} {Q : Exit → Act → World → Prop}
def After (J : Nat → World → Prop) (R : Nat → World → Value → Prop) (n i : Nat) (d : Option Tmp) (a : Act) (w : World) (a' : Act) (w' : World) : Prop :=
  ∃ v, a' = a.put d v ∧ J (n + 1) w' ∧ (∀ j u, R j w u → R j w' u) ∧ R i w' v
theorem After.mk {J : Nat → World → Prop} {R : Nat → World → Value → Prop} {n i : Nat} {d : Option Tmp} {a : Act} {w : World} {a' : Act} {w' : World} (v : Value) (h : a' = a.put d v) (hJ : J (n + 1) w')
    (hs : ∀ j u, R j w u → R j w' u) (hR : R i w' v) : After J R n i d a w a' w' := ⟨v, h, hJ, hs, hR⟩
theorem open_less {n : Nat} {listed : Array Bool} {i k : Nat} (hi : i < n) (hs : listed.size = n) (hu : listed.getD i true = false)
    (h : ((List.range n).filter fun j => !listed.getD j true).length ≤ k + 1) : ((List.range n).filter fun j => !(listed.setIfInBounds i true).getD j true).length ≤ k := by
  have e : ((List.range n).filter fun j => !(listed.setIfInBounds i true).getD j true) = ((List.range n).filter fun j => !listed.getD j true).filter fun j => decide (j ≠ i) := by
    rw [List.filter_filter]
    apply List.filter_congr
    intro j hj
    simp only [Array.getD_eq_getD_getElem?, Array.getElem?_setIfInBounds]
    by_cases hji : i = j
    · subst hji; simp [hs, hi]
    · have : j ≠ i := fun e => hji e.symm
      simp [hji, this]
  rw [e]
  have hlt : (((List.range n).filter fun j => !listed.getD j true).filter fun j => decide (j ≠ i)).length < ((List.range n).filter fun j => !listed.getD j true).length := by
    rw [List.length_filter_lt_length_iff_exists]
    exact ⟨i, by simpa [hi, Array.getD_eq_getD_getElem?] using hu, by simp⟩
  omega
end
def AllFrom (p : Nat → Oper → Prop) : Nat → List Oper → Prop
  | _, [] => True
  | i, o :: r => p i o ∧ AllFrom p (i + 1) r
theorem AllFrom.get {p : Nat → Oper → Prop} : ∀ (l : List Oper) (k : Nat), AllFrom p k l → ∀ (i : Nat) (o : Oper), l[i]? = some o → p (k + i) o
  | [], _, _, i, o, h => by simp at h
  | x :: r, k, ⟨h1, h2⟩, i, o, h => by
    cases i with
    | zero => simp at h; subst h; exact h1
    | succ i =>
      have := AllFrom.get r (k + 1) h2 i o (by simpa using h)
      rwa [show k + 1 + i = k + (i + 1) by omega] at this
theorem nodup_dst : ∀ (l : List Oper), (l.filterMap (·.dst)).Nodup → ∀ (i j : Nat) (oi oj : Oper) (d : Nat), l[i]? = some oi → l[j]? = some oj → oi.dst = some d → oj.dst = some d → i = j
  | [], _, i, _, _, _, _, h, _, _, _ => by simp at h
  | x :: r, hn, i, j, oi, oj, d, hi, hj, di, dj => by
    have hr : (r.filterMap (·.dst)).Nodup := by
      rw [List.filterMap_cons] at hn
      split at hn
      · exact hn
      · exact (List.nodup_cons.1 hn).2
    have hx : ∀ (k : Nat) (o : Oper), r[k]? = some o → o.dst = some d → x.dst = some d → False := by
      intro k o ho hd hxd
      rw [List.filterMap_cons, hxd] at hn
      exact (List.nodup_cons.1 hn).1 (List.mem_filterMap.2 ⟨o, List.mem_of_getElem? ho, hd⟩)
    cases i with
    | zero =>
      cases j with
      | zero => rfl
      | succ j => simp at hi hj; subst hi; exact absurd (hx j oj hj dj di) id
    | succ i =>
      cases j with
      | zero => simp at hi hj; subst hj; exact absurd (hx i oi hi di dj) id
      | succ j => rw [nodup_dst r hr i j oi oj d (by simpa using hi) (by simpa using hj) di dj]
inductive Ty where
  | any
  | val (v : Value)
  | int (lo hi : Int)
  | lits (n : Nat) (lo hi : Int)
  | cell (lo hi : Int)
def Ty.has (g : Nat) : Ty → World → Value → Prop
  | .any, _, _ => True
  | .val u, _, v => v = u
  | .int lo hi, _, v => ∃ x : Int, v = .int .i64 x ∧ lo ≤ x ∧ x < hi
  | .lits n lo hi, w, v => ∃ (b : Nat) (cs : Array Value) (zs : List Int), v = .slice (some ⟨b, 0, none⟩) n n ∧ g < b ∧ Has w b 3 cs ∧ cs = (zs.map (Value.int .i64)).toArray ∧ zs.length = n ∧ ∀ z ∈ zs, lo ≤ z ∧ z < hi
  | .cell lo hi, w, v => ∃ (b i : Nat) (z : Int), v = .pointer (some ⟨b, i, none⟩) ∧ g < b ∧ w.cell? ⟨b, i, none⟩ = some (.int .i64 z) ∧ lo ≤ z ∧ z < hi
theorem Ty.grown {g : Nat} {w w' : World} (hg : w.grownBy w' (some g)) : ∀ (t : Ty) (v : Value), t.has g w v → t.has g w' v
  | .any, _, _ => trivial
  | .val _, _, h => h
  | .int _ _, _, h => h
  | .lits _ _ _, _, ⟨b, cs, zs, h1, h2, h3, h4⟩ => ⟨b, cs, zs, h1, h2, h3.grown hg (fun e => by injection e with e; omega), h4⟩
  | .cell _ _, _, ⟨b, i, z, h1, h2, h3, h4⟩ => ⟨b, i, z, h1, h2, hg.cell h3 (fun e => by simp at e; omega), h4⟩
def DrawJ (W : World) (B g : Nat) (P : Int) (n : Nat) (w : World) : Prop := Rd w B g (P + (n : Int)) ∧ W.grownBy w (some g)
theorem DrawJ.up {W : World} {B g : Nat} {P : Int} (n : Nat) (w : World) (h : DrawJ W B g P n w) : DrawJ W B g P (n + 1) w := ⟨h.1.mono (by omega), h.2⟩
theorem DrawJ.alloc {W : World} {B g : Nat} {P : Int} {n : Nat} {w : World} (h : DrawJ W B g P n w) (o : Obj) : DrawJ W B g P (n + 1) (w.alloc o) := ⟨(h.1.alloc o).mono (by omega), only_alloc h.2 o⟩
def Typed (g : Nat) (tys : List Ty) (i : Nat) (w : World) (v : Value) : Prop := (tys.getD i .any).has g w v
theorem Typed.grown {g : Nat} {tys : List Ty} {w w' : World} (hg : w.grownBy w' (some g)) (j : Nat) (u : Value) (h : Typed g tys j w u) : Typed g tys j w' u := Ty.grown hg _ u h
end Go.Proofs.YtpfombelhajmlaaGreatDoor
namespace Go.Proofs.YtpfombelhajmlaaGreatDoor
open Go.RowKit
section
variable {P : Program} {ops : Array Oper} {Q : Exit → Act → World → Prop}
def users (ops : Array Oper) (j : Nat) : List Nat := (List.range ops.size).filter fun u => ((ops[u]?).map fun o => o.after.any fun e => e.on == j && decide (e.ground = Ground.data)).getD false
def NeededBy (ops : Array Oper) (D : Nat → Prop) (i j : Nat) : Prop := D j ∧ (users ops j = [] ∨ ∃ u ∈ users ops j, u ≠ i ∧ ¬ D u)
def After2 (ops : Array Oper) (D : Nat → Prop) (J : Nat → World → Prop) (R : Nat → World → Value → Prop) (n i : Nat) (d : Option Tmp) (a : Act) (w : World) (a' : Act) (w' : World) : Prop :=
  ∃ v, a' = a.put d v ∧ J (n + 1) w' ∧ (∀ j u, NeededBy ops D i j → R j w u → R j w' u) ∧ R i w' v
theorem After2.mk {ops : Array Oper} {D : Nat → Prop} {J : Nat → World → Prop} {R : Nat → World → Value → Prop} {n i : Nat} {d : Option Tmp} {a : Act} {w : World} {a' : Act} {w' : World} (v : Value) (h : a' = a.put d v) (hJ : J (n + 1) w')
    (hs : ∀ j u, NeededBy ops D i j → R j w u → R j w' u) (hR : R i w' v) : After2 ops D J R n i d a w a' w' := ⟨v, h, hJ, hs, hR⟩
end
end Go.Proofs.YtpfombelhajmlaaGreatDoor
namespace Go.Proofs.YtpfombelhajmlaaGreatDoor
open Go.RowKit
def Vals (w : World) (B : Nat) (a : Option Addr) (vs : List Value) : Prop :=
  0 < vs.length → ∃ b off, a = some ⟨b, off, none⟩ ∧ b < B ∧ ∀ i u, vs[i]? = some u → w.cell? ⟨b, off + i, none⟩ = some u
section
variable {w w' : World} {B B' : Nat} {a : Option Addr} {vs : List Value}
theorem Vals.at_ (h : Vals w B a vs) {i : Nat} (hi : i < vs.length) : ∃ b off, a = some ⟨b, off, none⟩ ∧ b < B ∧ w.cell? ⟨b, off + i, none⟩ = some vs[i] := by
  obtain ⟨b, off, ha, hb, hc⟩ := h (by omega)
  exact ⟨b, off, ha, hb, hc i _ (List.getElem?_eq_getElem hi)⟩
theorem Vals.keep (h : Vals w B a vs) (hk : ∀ p : Addr, p.block < B → w'.cell? p = w.cell? p) : Vals w' B a vs := fun hn => by
  obtain ⟨b, off, ha, hb, hc⟩ := h hn
  exact ⟨b, off, ha, hb, fun i u hi => (hk _ hb).trans (hc i u hi)⟩
theorem Vals.more (h : Vals w B a vs) (hB : B ≤ B') : Vals w B' a vs := fun hn => by
  obtain ⟨b, off, ha, hb, hc⟩ := h hn
  exact ⟨b, off, ha, by omega, hc⟩
theorem Vals.below (h : Vals w B a vs) (hb : Below B w w') : Vals w' B a vs := h.keep fun _ hp => hb.cell hp
theorem Vals.drewN (h : Vals w B a vs) (n : Nat) : Vals (w.drewN n) B a vs := h
theorem Vals.alloc (h : Vals w B a vs) (hB : B ≤ w.heap.size) (o : Obj) : Vals (w.alloc o) B a vs := h.keep fun p hp => World.cell?_alloc_lt w o p (by omega)
end
theorem vals_of_own {w : World} {base : Nat} {v : Value} {t : TypeId} {vs : List Value} (h : w.ownsRow base t 1 v vs.length vs) :
    ∃ a c, v = .slice a vs.length c ∧ vs.length ≤ c ∧ Vals w w.heap.size a vs := by
  rcases h.2 with ⟨rfl, h0⟩ | ⟨g, cap, cur, rfl, _, hh, hc, _, _, hx⟩
  · exact ⟨none, 0, by rw [h0], by omega, fun hn => by omega⟩
  · refine ⟨_, _, rfl, hc, fun _ => ⟨g, 0, rfl, Has.lt (t := t) (cs := cur) hh, fun i u hi => ?_⟩⟩
    rw [Nat.zero_add, Has.cell (t := t) (cs := cur) hh i, ← Array.getElem?_toList]
    have hl : i < vs.length := by
      rcases Nat.lt_or_ge i vs.length with h1 | h1
      · exact h1
      · rw [List.getElem?_eq_none h1] at hi; cases hi
    have e : (cur.toList.take (vs.length * 1))[i]? = cur.toList[i]? := by rw [List.getElem?_take, if_pos (by omega)]
    rw [← e, hx, hi]
end Go.Proofs.YtpfombelhajmlaaGreatDoor
namespace Go.Proofs.YtpfombelhajmlaaGreatDoor
open Go.RowKit
inductive TyB where
  | any
  | val (v : Value)
  | empty
  | row (vs : List Value)
  | one (u : Value)
  | part (vs : List Value)
def TyB.has (base : Nat) (T : TypeId) : TyB → World → Value → Prop
  | .any, _, _ => True
  | .val u, _, v => v = u
  | .empty, w, v => ∃ g, v = .slice (some ⟨g, 0, none⟩) 0 0 ∧ base ≤ g ∧ Has w g T #[]
  | .row vs, w, v => w.ownsRow base T 1 v vs.length vs
  | .one u, w, v => ∃ h, v = .slice (some ⟨h, 0, none⟩) 1 1 ∧ base ≤ h ∧ Has w h T #[u]
  | .part vs, w, v => ∃ b off c, v = .slice (some ⟨b, off, none⟩) vs.length c ∧ b < base ∧ ∀ i u, vs[i]? = some u → w.cell? ⟨b, off + i, none⟩ = some u
theorem TyB.alloc {base : Nat} {T : TypeId} {w : World} (hb : base ≤ w.heap.size) (o : Obj) : ∀ (t : TyB) (v : Value), t.has base T w v → t.has base T (w.alloc o) v
  | .any, _, _ => trivial
  | .val _, _, h => h
  | .empty, _, ⟨g, h1, h2, h3⟩ => ⟨g, h1, h2, h3.alloc o⟩
  | .row _, _, h => World.ownsRow.alloc h o
  | .one _, _, ⟨g, h1, h2, h3⟩ => ⟨g, h1, h2, h3.alloc o⟩
  | .part _, _, ⟨b, off, c, h1, h2, h3⟩ => ⟨b, off, c, h1, h2, fun i u hi => (World.cell?_alloc_lt w o _ (by show b < _; omega)).trans (h3 i u hi)⟩
theorem TyB.first {base : Nat} {T : TypeId} {w w' : World} {g : Nat} (hg : w.grownBy w' (some g)) (hbg : base ≤ g) (hb : base ≤ w.heap.size) (hh : Has w g T #[]) : ∀ (t : TyB) (v : Value), (match t with | .val _ => True | .part _ => True | .one _ => True | .any => True | _ => False) → t.has base T w v → t.has base T w' v
  | .any, _, _, _ => trivial
  | .val _, _, _, h => h
  | .empty, _, h, _ => h.elim
  | .row _, _, h, _ => h.elim
  | .one _, _, _, ⟨h, h1, h2, h3⟩ => ⟨h, h1, h2, h3.grown hg (fun e => by
      injection e with e
      subst e
      unfold Has at hh h3
      rw [hh] at h3
      injection h3 with h3
      injection h3 with h3
      simp at h3)⟩
  | .part _, _, _, ⟨b, off, c, h1, h2, h3⟩ => ⟨b, off, c, h1, h2, fun i u hi => (World.cell?_of_block (hg.block b (by omega) (fun e => by injection e with e; omega))).trans (h3 i u hi)⟩
theorem TyB.next {base : Nat} {T : TypeId} {w w' : World} {row : Option Nat} (hg : w.grownBy w' row) (hr : ∀ g, row = some g → base ≤ g) (hb : base ≤ w.heap.size) : ∀ (t : TyB) (v : Value), (match t with | .val _ => True | .part _ => True | .any => True | _ => False) → t.has base T w v → t.has base T w' v
  | .any, _, _, _ => trivial
  | .val _, _, _, h => h
  | .empty, _, h, _ => h.elim
  | .row _, _, h, _ => h.elim
  | .one _, _, h, _ => h.elim
  | .part _, _, _, ⟨b, off, c, h1, h2, h3⟩ => ⟨b, off, c, h1, h2, fun i u hi => (World.cell?_of_block (hg.block b (by omega) (fun e => by have := hr b e.symm; omega))).trans (h3 i u hi)⟩
end Go.Proofs.YtpfombelhajmlaaGreatDoor

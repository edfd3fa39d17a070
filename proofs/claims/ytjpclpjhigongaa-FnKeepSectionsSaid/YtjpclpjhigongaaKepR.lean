/-
  Answers that are an object and a truth.
-/
import Derived.Test.YtjpclpjhigongaaRchK
import Derived.Test.YtjpclpjhigongaaCopO
import Derived.Laws.ResultCell
namespace Go.Proofs.Ytjpclpjhigongaa
open Go.RowKit

theorem results_cell_rowT {P : Program} {fn : Func} {p u : Tmp} {ty : TypeId} (h : fn.results = #[.cell p ty, .tmp u]) (tmps : Array Value) (w : World) (g : Nat) (t : TypeId) (cs : Array Value) (fr : Nat × Nat) (d : TypeDesc)
    (hp : tmps.getD p undef = .pointer (some ⟨g, 0, none⟩)) (hg : w.heap[g]? = some (.cells cs t fr))
    (hu : P.underlying ty = some d) (hd : (match d with | .struct _ | .array _ _ => true | _ => false) = true) (hi : (P.info? ty).map (·.size) = some cs.size) :
    (results fn tmps).run P w = .ok (.tuple #[.agg cs, tmps.getD u undef]) w := by
  rw [results_cell_tmp h, hp]
  simp [asAddr, run_loadVar_row w g t ty cs fr d hg hu hd hi, Result.andThen]
/-- What is kept of an object, and whether it can be. -/
def keepR (kp : List Bool) (ss : List Sx) (ms : List Sm) : (List Sx × List Sm) × Bool :=
  if objOk ss ms && !looseS (ms.map (inKept kp)) kp ss then (keepO kp ss ms, true) else (([], []), false)
theorem keepR_no {kp : List Bool} {ss : List Sx} {ms : List Sm} {A : List Sx × List Sm} {b : Bool} (h : keepR kp ss ms = (A, b)) (hn : objOk ss ms = false ∨ looseS (ms.map (inKept kp)) kp ss = true) : A = ([], []) ∧ b = false := by
  unfold keepR at h
  rw [if_neg (by rcases hn with e | e <;> simp [e])] at h
  injection h with h1 h2
  exact ⟨h1.symm, h2.symm⟩
theorem keepR_yes {kp : List Bool} {ss : List Sx} {ms : List Sm} {A : List Sx × List Sm} {b : Bool} (h : keepR kp ss ms = (A, b)) (h1 : objOk ss ms = true) (h2 : looseS (ms.map (inKept kp)) kp ss = false) : A = keepO kp ss ms ∧ b = true := by
  unfold keepR at h
  rw [if_pos (by simp [h1, h2])] at h
  injection h with h1 h2
  exact ⟨h1.symm, h2.symm⟩
/-- What is answered: an object in rows of its own, and a truth. -/
def AnsB (w : World) (A : List Sx × List Sm) (ok : Bool) (N M : Nat) (e : Ending) (w' : World) : Prop :=
  ∃ (l : List Sp) (a1 a2 : Option Addr) (c1 c2 : Nat), e = .returned (.tuple #[.agg #[.slice a1 N c1, .slice a2 M c2], .bool ok]) ∧ l.map Sp.s = A.1 ∧ OwnR w' w.heap.size a1 a2 N M c1 c2 l A.2 ∧ Below w.heap.size w w'
theorem ansB_none {w W : World} {A : List Sx × List Sm} {ok : Bool} {N M : Nat} (hr : Has W (w.heap.size + 1) 26 #[.slice none 0 0, .slice none 0 0]) (hb : Below w.heap.size w W) (hA : A = ([], [])) (ho : ok = false) (hN : A.1.length = N) (hM : A.2.length = M) :
    Has ((W.setCell ⟨w.heap.size + 1, 0, none⟩ (.slice none 0 0)).setCell ⟨w.heap.size + 1, 1, none⟩ (.slice none 0 0)) (w.heap.size + 1) 26 #[.slice none 0 0, .slice none 0 0] ∧
      AnsB w A ok N M (.returned (.tuple #[.agg #[.slice none 0 0, .slice none 0 0], .bool false])) ((W.setCell ⟨w.heap.size + 1, 0, none⟩ (.slice none 0 0)).setCell ⟨w.heap.size + 1, 1, none⟩ (.slice none 0 0)) := by
  subst hA
  subst ho
  have e1 : 0 = N := hN
  have e2 : 0 = M := hM
  subst e1
  subst e2
  have hb7 : Below w.heap.size w ((W.setCell ⟨w.heap.size + 1, 0, none⟩ (.slice none 0 0)).setCell ⟨w.heap.size + 1, 1, none⟩ (.slice none 0 0)) := hb.grown (only_trans (only_put' 0 _) (only_put' 1 _)) hb.size (by intro q hq; injection hq with hq; omega)
  exact ⟨(hr.put 0 (.slice none 0 0)).put 1 (.slice none 0 0), [], none, none, 0, 0, rfl, rfl, ⟨hb7.size, rfl, rfl, SR.nil _ _, World.ownsRow_nil _ _ _ _⟩, hb7⟩
theorem ansB_store {w w6 : World} {lo : Nat} {A : List Sx × List Sm} {ok : Bool} {L6 : List Sp} {e1 e2 : Option Addr} {N6 M6 g1 g2 : Nat} (hr : Has w6 (w.heap.size + 1) 26 #[.slice none 0 0, .slice none 0 0]) (hlo : w.heap.size + 1 < lo) (hown : OwnR w6 lo e1 e2 N6 M6 g1 g2 L6 A.2) (hL : L6.map Sp.s = A.1) (hb : Below w.heap.size w w6) (ho : ok = true) :
    Has ((w6.setCell ⟨w.heap.size + 1, 0, none⟩ (.slice e1 N6 g1)).setCell ⟨w.heap.size + 1, 1, none⟩ (.slice e2 M6 g2)) (w.heap.size + 1) 26 #[.slice e1 N6 g1, .slice e2 M6 g2] ∧
      AnsB w A ok N6 M6 (.returned (.tuple #[.agg #[.slice e1 N6 g1, .slice e2 M6 g2], .bool true])) ((w6.setCell ⟨w.heap.size + 1, 0, none⟩ (.slice e1 N6 g1)).setCell ⟨w.heap.size + 1, 1, none⟩ (.slice e2 M6 g2)) := by
  subst ho
  have hg : w6.grownBy ((w6.setCell ⟨w.heap.size + 1, 0, none⟩ (.slice e1 N6 g1)).setCell ⟨w.heap.size + 1, 1, none⟩ (.slice e2 M6 g2)) (some (w.heap.size + 1)) := only_trans (only_put' 0 _) (only_put' 1 _)
  have h7 := hown.under hlo hg
  have hb7 := hb.grown hg hb.size (by intro q hq; injection hq with hq; omega)
  exact ⟨(hr.put 0 _).put 1 _, L6, e1, e2, g1, g2, rfl, hL, ⟨hb7.size, h7.len, h7.lem, h7.secs.lower (by omega), row_lower h7.syms (by omega)⟩, hb7⟩

end Go.Proofs.Ytjpclpjhigongaa

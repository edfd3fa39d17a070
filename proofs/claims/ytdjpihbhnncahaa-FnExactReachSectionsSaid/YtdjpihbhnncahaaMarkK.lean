/-
  What the laws' marks leave of answers that are objects.
-/
import Derived.Test.YtdjpihbhnncahaaMarkR
import Derived.Test.YtdjpihbhnncahaaAnsK
import Derived.Test.YtdjpihbhnncahaaObj
namespace Go.Proofs.Ytdjpihbhnncahaa
open Go.RowKit

/-- An answer is not great. -/
def FewA (A : List Sx × List Sm) (N M : Nat) : Prop := N ≤ 8 ∧ M ≤ 12 ∧ ∀ s ∈ A.1, s.lens ∧ s.bytes.length ≤ 48 ∧ s.fixs.length ≤ 6
theorem startS_few {L : List Sp} (h : L.length ≤ 8) (hs : ∀ y ∈ L, y.s.bytes.length ≤ 48 ∧ y.s.fixs.length ≤ 6) : startS L L.length ≤ 1000000 := by
  have hc : ∀ q : List Sp, (∀ y ∈ q, costS y ≤ 1000) → (q.map costS).sum ≤ 1000 * q.length := by
    intro q
    induction q with
    | nil => intro _; simp
    | cons z r ih =>
      intro hq
      have h1 := hq z (by simp)
      have h2 := ih (fun u hu => hq u (by simp [hu]))
      rw [List.map_cons, List.sum_cons, List.length_cons]
      omega
  have := hc L (fun y hy => by obtain ⟨p2, p3⟩ := hs y hy; unfold costS; omega)
  unfold startS
  rw [List.take_length]
  omega
theorem own_mk {W W' : World} {base : Nat} {T : TypeId} {size : Nat} {v : Value} {n : Nat} {xs : List Value} {l h' : Nat} (h : W.ownsRow base T size v n xs) (hm : Mk l h' W W') (hl : h' ≤ base) : W'.ownsRow base T size v n xs :=
  ⟨h.1, h.2.imp id fun ⟨g, cap, cur, e, hb, hh, hr⟩ => ⟨g, cap, cur, e, hb, (hm.block g (by have hh' : Has W g T cur := hh; exact hh'.lt) (.inr (by omega))).trans hh, hr⟩⟩
theorem OwnR.marked {W W' : World} {lo : Nat} {a1 a2 : Option Addr} {n m c1 c2 : Nat} {ss : List Sp} {ms : List Sm} {l h' : Nat} (h : OwnR W lo a1 a2 n m c1 c2 ss ms) (hm : Mk l h' W W') (hl : h' ≤ lo) : OwnR W' lo a1 a2 n m c1 c2 ss ms :=
  ⟨Nat.le_trans h.low hm.size, h.len, h.lem, ⟨own_mk h.secs.row hm hl, h.secs.wf, fun y hy => own_mk (h.secs.own1 y hy) hm hl, fun y hy => own_mk (h.secs.own2 y hy) hm hl, h.secs.apart⟩, own_mk h.syms hm hl⟩
theorem Has.mkK {w w' : World} {lo hi g : Nat} {t : TypeId} {cs : Array Value} (h : Has w g t cs) (hm : Mk lo hi w w') (ho : g < lo ∨ hi ≤ g) : Has w' g t cs := (hm.block g h.lt ho).trans h
theorem Mk.belowK {w w0 w' : World} {lo hi B : Nat} (h : Below B w0 w) (hm : Mk lo hi w w') (hB : B ≤ lo) (hs : B ≤ w.heap.size) : Below B w0 w' :=
  ⟨hm.os.trans h.os, hm.tape.trans h.tape, hm.output.trans h.output, Nat.le_trans h.size hm.size, fun b hb => (hm.block b (by omega) (.inl (by omega))).trans (h.block b hb)⟩

end Go.Proofs.Ytdjpihbhnncahaa

/-
  Whole objects: what the laws' functions do with them.
-/
import Derived.Test.YtdmdjlnpbmiadaaGreatDoorSecs
namespace Go.Proofs.YtdmdjlnpbmiadaaGreatDoor
open Go.RowKit

def SizedM (w : World) (m : Sm) (e : Ending) (w' : World) : Prop :=
  ∃ r : Int, e = .returned (.int .i64 r) ∧ Below w.heap.size w w' ∧ -1 ≤ r ∧ r ≤ 1048576 ∧ (0 ≤ r → m.name.size ≤ 1048576)















def SizedMS (w : World) (l : List Sm) (e : Ending) (w' : World) : Prop :=
  ∃ r : Int, e = .returned (.int .i64 r) ∧ Below w.heap.size w w' ∧ -1 ≤ r ∧ r ≤ 1048576 ∧ (0 ≤ r → l.length ≤ 1048576 ∧ ∀ x ∈ l, x.name.size ≤ 1048576)
































































def SizedO (w : World) (l : List Sp) (ms : List Sm) (e : Ending) (w' : World) : Prop :=
  ∃ r : Int, e = .returned (.int .i64 r) ∧ Below w.heap.size w w' ∧ -1 ≤ r ∧ r ≤ 1048576 ∧ (0 ≤ r → (l.length ≤ 1048576 ∧ ∀ y ∈ l, y.s.short) ∧ ms.length ≤ 1048576 ∧ ∀ x ∈ ms, x.name.size ≤ 1048576)








































/-- What toObject answers: an object of its own, all of it behind the old heap. -/
def TookO (w : World) (l : List Sp) (ms : List Sm) (n m : Nat) (e : Ending) (w' : World) : Prop :=
  ∃ (l' : List Sp) (g1 g2 : Nat), l'.map Sp.s = l.map Sp.s ∧ e = .returned (.agg #[.slice (some ⟨g1, 0, none⟩) n n, .slice (some ⟨g2, 0, none⟩) m m]) ∧ Sects w' w'.heap.size (some ⟨g1, 0, none⟩) l' ∧ Syms w' w'.heap.size (some ⟨g2, 0, none⟩) ms ∧
    Below w.heap.size w w' ∧ w.heap.size ≤ g1 ∧ g1 < g2 ∧ (∀ y ∈ l', Far g1 w' y) ∧ (∃ cs, Has w' g1 52 cs ∧ FilledX cs n l') ∧ (∃ cs, Has w' g2 58 cs ∧ cs.size = m * 4)





































































































set_option maxHeartbeats 1000000 in
theorem eqObject_yes (w : World) (B1 B2 : Nat) (a1 a2 b1 b2 : Option Addr) (c1 c2 d1 d2 n m : Nat) (l1 l2 : List Sp) (ms : List Sm) (he : l1.map Sp.s = l2.map Sp.s) (hn : n = l1.length) (hm : m = ms.length) (h1 : Sects w B1 a1 l1) (h2 : Syms w B1 a2 ms) (h3 : Sects w B2 b1 l2) (h4 : Syms w B2 b2 ms) (hB1 : B1 ≤ w.heap.size) (hB2 : B2 ≤ w.heap.size)
    (hlen : n ≤ 9223372036854775807) (hlem : m ≤ 9223372036854775807) (hl : ∀ y ∈ l1, y.s.lens) :
    Calls Tryz.prog 18 #[.agg #[.slice a1 n c1, .slice a2 m c2], .agg #[.slice b1 n d1, .slice b2 m d2]] w fun e w' => e = .returned (.bool true) ∧ Below w.heap.size w w' := by
  have hbA : Below w.heap.size w ((w.alloc (.cells #[.slice a1 n c1, .slice a2 m c2] 26)).alloc (.cells #[.slice b1 n d1, .slice b2 m d2] 26)) := ((Below.refl _ _).alloc (Nat.le_refl _) _).alloc (by simp) _
  have H1 := hidden (eqSectionS_yes ((w.alloc (.cells #[.slice a1 n c1, .slice a2 m c2] 26)).alloc (.cells #[.slice b1 n d1, .slice b2 m d2] 26)) B1 B2 a1 b1 c1 d1 n l1 l2 he hn (h1.below (hbA.mono hB1)) (h3.below (hbA.mono hB2)) (Nat.le_trans hB1 hbA.size) (Nat.le_trans hB2 hbA.size) hlen hl)
  have H2 := hidden (fun (W : World) (hW : Below w.heap.size w W) => eqSymbolS_yes W B1 B2 a2 b2 c2 d2 m ms hm (h2.below (hW.mono hB1)) (h4.below (hW.mono hB2)) (Nat.le_trans hB1 hW.size) (Nat.le_trans hB2 hW.size) hlem)
  have HB := hidden hbA
  clear he hn hm h1 h2 h3 h4 hl hbA
  go_enter Tryz.func18, Tryz.ntmps18
  go_wp2_with fail
  refine H1.out.mono ?_
  clear H1
  rintro e w2 ⟨rfl, hb2⟩
  have hb12 : Below w.heap.size w w2 := HB.out.trans (hb2.mono HB.out.size)
  have q1 : w2.cell? ⟨w.heap.size, 1, none⟩ = some (.slice a2 m c2) := (hb2.cell (by simp; omega)).trans (((Has.new w 26 _).alloc _).cell 1)
  have q2 : w2.cell? ⟨w.heap.size + 1, 1, none⟩ = some (.slice b2 m d2) := (hb2.cell (by simp)).trans (by simp)
  clear hb2
  go_wp2_with fail
  refine (H2.out w2 hb12).mono ?_
  clear H2
  rintro e w3 ⟨rfl, hb3⟩
  go_wp2_with fail
  go_ret
  exact ⟨rfl, hb12.trans (hb3.mono hb12.size)⟩

end Go.Proofs.YtdmdjlnpbmiadaaGreatDoor

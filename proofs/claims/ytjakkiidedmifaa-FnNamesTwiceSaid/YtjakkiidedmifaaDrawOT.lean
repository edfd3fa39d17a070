/-
  spec.DrawNamesTwice, with the capacity told.
-/
import Derived.Test.YtjakkiidedmifaaDrawOL
namespace Go.Proofs.Ytjakkiidedmifaa
open Go.RowKit

theorem OL.cap {W : World} {base : Nat} {a : Option Addr} {c : Nat} {L M : List Oj} (h : OL W base (.slice a L.length c) L M) : L.length ≤ c ∧ c ≤ maxLen := by
  rcases h.row.2 with ⟨e, h0⟩ | ⟨g, cap, cur, e, _, _, k1, k2, _⟩
  · have e2 := (Value.slice.inj e).2.2
    exact ⟨by omega, by rw [e2]; exact Nat.zero_le _⟩
  · have e2 := (Value.slice.inj e).2.2
    rw [e2]
    exact ⟨k1, k2⟩
/-- Objects that were drawn, and the room that they lie in. -/
def GotC (w : World) (e : Ending) (w' : World) : Prop :=
  ∃ (a : Option Addr) (c : Nat) (L : List Oj), e = .returned (.slice a L.length c) ∧ (L.length ≤ c ∧ c ≤ maxLen) ∧ L.length ≤ 5 ∧ (∀ y ∈ L, y.few) ∧ Objs w' w'.heap.size a L ∧ Below w.heap.size w w'
theorem gotC_mk {w w1 w' : World} {g : Nat} {P : Int} {B : Nat} {e : Ending} (hb : Below w.heap.size w w1) (hg : w.heap.size ≤ g) (h : DrawnL w1 B g P e w') : GotC w e w' := by
  obtain ⟨a, c, L, rfl, hl, d⟩ := h
  exact ⟨a, c, L, rfl, d.list.cap, hl, d.few, d.list.objs', hb.grown d.grown hb.size (by intro q hq; injection hq with hq; omega)⟩
set_option maxRecDepth 100000 in
theorem drawNamesTwice_cap (w : World) (a : Option Addr) (cap : Nat) (l : List Int) (h : Ints w .u8 w.heap.size a l) (hcap : l.length ≤ cap) (hlen : cap ≤ 9223372036854775807) :
    Calls Try.prog 24 #[.slice a l.length cap] w (GotC w) := by
  go_enter Try.func24, Try.ntmps24
  go_wp2_with fail
  refine (l20Open_any w a cap l h hcap hlen).mono ?_
  rintro e w1 ⟨rfl, hr1, hb1⟩
  have HX := hidden (l20Objects_any w1 w.heap.size w.heap.size 0 9 hr1 (by omega) (by omega) (by omega))
  have HB := hidden hb1
  clear hr1 hb1 h
  go_wp2_with fail
  refine HX.out.mono ?_
  clear HX
  rintro e w2 hD
  have HG := hidden (gotC_mk HB.out (Nat.le_refl _) hD)
  obtain ⟨a2, c2, L, rfl, -, -⟩ := hD
  clear HB
  go_wp2_with fail
  go_ret
  exact HG.out

end Go.Proofs.Ytjakkiidedmifaa

/-
  The draws of objects.
-/
import Derived.Test.YtiocchmlmcoieaaDrawL
import Derived.Test.YtiocchmlmcoieaaLnkV
namespace Go.Proofs.Ytiocchmlmcoieaa
open Go.RowKit

/-- Few and small things. -/
structure Oj.few (y : Oj) : Prop where
  n1 : y.l.length ≤ 8
  n2 : y.ms.length ≤ 20
  secs : ∀ z ∈ y.l, z.s.small
  syms : ∀ m ∈ y.ms, m.small
theorem Oj.few.fits {y : Oj} (h : y.few) : y.fits := ⟨by have := h.n1; omega, by have := h.n2; omega, fun z hz => (h.secs z hz).fits', fun x hx => (h.syms x hx).fits⟩
/-- Objects that were drawn. -/
def GotL (w : World) (e : Ending) (w' : World) : Prop :=
  ∃ (a : Option Addr) (c : Nat) (L : List Oj), e = .returned (.slice a L.length c) ∧ L.length ≤ 5 ∧ (∀ y ∈ L, y.few) ∧ Objs w' w'.heap.size a L ∧ Below w.heap.size w w'
theorem DL.few {w W : World} {B g : Nat} {P : Int} {v : Value} {L M : List Oj} (d : DL w W B g P v L M) : ∀ y ∈ M, y.few := fun y hy => by
  obtain ⟨i, hi⟩ := List.getElem?_of_mem hy
  have := d.list.objs i y hi
  exact ⟨this.few1, this.few2, this.secs.small, this.small⟩
theorem gotL_mk {w w1 w' : World} {g : Nat} {P : Int} {B : Nat} {e : Ending} (hb : Below w.heap.size w w1) (hg : w.heap.size ≤ g) (h : DrawnL w1 B g P e w') : GotL w e w' := by
  obtain ⟨a, c, L, rfl, hl, d⟩ := h
  exact ⟨a, c, L, rfl, hl, d.few, d.list.objs', hb.grown d.grown hb.size (by intro q hq; injection hq with hq; omega)⟩
set_option maxRecDepth 100000 in
theorem drawObjectsValid_any (w : World) (a : Option Addr) (cap : Nat) (l : List Int) (h : Ints w .u8 w.heap.size a l) (hcap : l.length ≤ cap) (hlen : cap ≤ 9223372036854775807) :
    Calls Try.prog 8 #[.slice a l.length cap] w (GotL w) := by
  go_enter Try.func8, Try.ntmps8
  go_wp2_with fail
  refine (l20Open_any w a cap l h hcap hlen).mono ?_
  rintro e w1 ⟨rfl, hr1, hb1⟩
  have HX := hidden (l20Objects_any w1 w.heap.size w.heap.size 0 3 hr1 (by omega) (by omega) (by omega))
  have HB := hidden hb1
  clear hr1 hb1 h
  go_wp2_with fail
  refine HX.out.mono ?_
  clear HX
  rintro e w2 hD
  have HG := hidden (gotL_mk HB.out (Nat.le_refl _) hD)
  obtain ⟨a2, c2, L, rfl, -, -⟩ := hD
  clear HB
  go_wp2_with fail
  go_ret
  exact HG.out









































end Go.Proofs.Ytiocchmlmcoieaa

/-
  A queue of sections in memory: impl.sectionQueue's put and next, impl.inSection; the library's functions over numbers.
-/
import Derived.Test.YtjpclpjhigongaaQueP
import Derived.Test.YtjpclpjhigongaaRegionV
import Derived.Test.YtjpclpjhigongaaShelf
import Derived.Sort.Grow
import Derived.BigQuiet
import Derived.Deep.QuietTactic
namespace Go.Proofs.Ytjpclpjhigongaa
open Go.RowKit

set_option maxRecDepth 100000 in
theorem inSection_any (w : World) (y : Sm) :
    Calls Try.prog 27 #[.agg #[.string y.name, .int .i64 y.bind, .int .i64 y.loc, .int .i64 y.value]] w fun e w' => e = .returned (.bool (decide (0 ≤ y.loc))) ∧ Below w.heap.size w w' := by
  obtain ⟨nm, bd, lo, va⟩ := y
  dsimp only
  go_enter Try.func27, Try.ntmps27
  go_wp2
  go_ret
  exact ⟨rfl, (Below.refl _ _).alloc (Nat.le_refl _) _⟩
theorem vals_int {w : World} {b o : Nat} {Q : List Int} (h : ∀ i u, (Q.map (Value.int .i64))[i]? = some u → w.cell? ⟨b, o + i, none⟩ = some u) : ∀ j, j < Q.length → w.cell? ⟨b, o + j, none⟩ = some (.int .i64 (Q.getD j 0)) := fun j hj => by
  refine h j _ ?_
  rw [List.getElem?_map, List.getD_eq_getElem?_getD, List.getElem?_eq_getElem hj]; rfl
theorem containsI_any (w : World) (B : Nat) (Q : List Int) (ka : Option Addr) (nk kc : Nat) (hkv : Vals w B ka (Q.map (Value.int .i64))) (hkn : Q.length = nk) (hkm : nk ≤ 1048576) (x : Int) :
    Calls Try.prog 28 #[.slice ka nk kc, .int .i64 x] w fun e w' => e = .returned (.bool (decide (x ∈ Q))) ∧ w = w' := by
  rcases Nat.eq_zero_or_pos nk with rfl | hp
  · obtain rfl : Q = [] := List.eq_nil_of_length_eq_zero hkn
    exact (Try.slices_Contains_int_empty ka kc x w).mono fun e w' ⟨h1, h2⟩ => ⟨by rw [h1]; simp, h2.symm⟩
  · obtain ⟨b, o, rfl, _, hcc⟩ := hkv (by rw [List.length_map, hkn]; exact hp)
    refine (Try.slices_Contains_int b o nk kc Q x w (by omega) (by omega) (vals_int hcc)).mono fun e w' ⟨h1, h2⟩ => ⟨?_, h2.symm⟩
    rw [h1, List.take_of_length_le (by omega)]
    simp





section
variable {w W W' : World} {v : Value} {Q : List Int} {p : Nat}





























end



































































































































































































































































































end Go.Proofs.Ytjpclpjhigongaa

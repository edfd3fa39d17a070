import Derived.Test.YtpfombelhajmlaaGreatDoorMem
import Derived.Lib.LaidTab
import Derived.Lib.ItoaNum
import Derived.Sort.Grow
namespace Go.Proofs.YtpfombelhajmlaaGreatDoor
open Go.RowKit
def tabTop : Nat := 1 + 1
structure Tabs (W : World) : Prop where
  lt : tabTop ≤ W.heap.size
  pow : Lib.TabIs Tryz.prog W "internal/strconv.uint64pow10" .u64 Lib.pow10Tab
theorem gPow : Tryz.prog.globalNamed "internal/strconv.uint64pow10" = some 1 := by kernel_rfl
theorem tab_block {W W' : World} (h : Lib.TabIs Tryz.prog W "internal/strconv.uint64pow10" .u64 Lib.pow10Tab) (hb : W'.heap[(1 : Nat)]? = W.heap[(1 : Nat)]?) : Lib.TabIs Tryz.prog W' "internal/strconv.uint64pow10" .u64 Lib.pow10Tab := by
  unfold Lib.TabIs World.var? at *
  rw [gPow] at h ⊢
  simp only [Option.bind_some] at h ⊢
  rw [hb]
  exact h
theorem Tabs.below {W W' : World} {B : Nat} (h : Tabs W) (hb : Below B W W') (hB : tabTop ≤ B) : Tabs W' :=
  ⟨Nat.le_trans h.lt hb.size, tab_block h.pow (hb.block _ (by unfold tabTop at hB; omega))⟩
theorem grow_below (W : World) (n : Nat) (os : Array Obj) : Below W.heap.size W (Sort.grow (W.drewN n) os) :=
  ⟨rfl, rfl, rfl, by simp [Sort.grow, World.drewN], fun i hi => by
    show (W.heap ++ os)[i]? = W.heap[i]?
    rw [Array.getElem?_append_left hi]⟩
end Go.Proofs.YtpfombelhajmlaaGreatDoor

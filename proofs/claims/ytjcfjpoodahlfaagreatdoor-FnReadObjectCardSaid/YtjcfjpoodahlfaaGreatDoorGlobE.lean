import Derived.Test.YtjcfjpoodahlfaaGreatDoorCards
import Derived.Test.YtjcfjpoodahlfaaGreatDoorTie
import Derived.Test.YtjcfjpoodahlfaaGreatDoorCurB
import Derived.ChangeSame
import Derived.ChangeVars
import Derived.JoinedOf
import Derived.RowKit
import Derived.RowKitTokens
import Derived.LaidLaws
import Derived.LaidMore
import Derived.ProofKit
import Derived.OpenShut
import Derived.Stop.ErrReads
import Derived.Stop.Joined
namespace Go.Proofs.YtjcfjpoodahlfaaGreatDoor
open Go.ChangeShapes Go.WideShapes Go.RowKit
theorem gHeader : Tryz.prog.globalNamed "loop.example/objectlinker/impl.errHeader" = some 0 := by kernel_rfl
theorem gShort : Tryz.prog.globalNamed "loop.example/objectlinker/impl.errShort" = some 2 := by kernel_rfl
theorem gName : Tryz.prog.globalNamed "loop.example/objectlinker/impl.errName" = some 3 := by kernel_rfl
theorem gOther : Tryz.prog.globalNamed "loop.example/objectlinker/impl.errOther" = some 1 := by kernel_rfl
theorem tHeader : (Tryz.prog.globals[0]?).map (·.type) = some 70 := by kernel_rfl
theorem tShort : (Tryz.prog.globals[2]?).map (·.type) = some 70 := by kernel_rfl
theorem tName : (Tryz.prog.globals[3]?).map (·.type) = some 70 := by kernel_rfl
theorem tOther : (Tryz.prog.globals[1]?).map (·.type) = some 70 := by kernel_rfl
theorem starE : "*" ++ "errors.errorString" = "*errors.errorString" := by decide
theorem rowE (u : TypeId) (h : Tryz.prog.typeName? 3 u = some "*errors.errorString") : u = 180 :=
  typeName_ptr_named (nm := "errors.errorString") (by rw [starE]; kernel_rfl) (by kernel_rfl) (by decide) u (by rw [starE]; exact h)
theorem cellsE : Tryz.prog.cellsOf 198 = 1 := by kernel_rfl
theorem cellsStr : Tryz.prog.cellsOf 9 = 1 := by kernel_rfl
set_option maxRecDepth 100000 in
theorem errs_of_laid {W : World} (h : laidMetH Tryz.prog Rows.fnReadObjectRow.laid W) : ∃ a0 a1 a2 a3 : Addr,
    W.var? Tryz.prog "loop.example/objectlinker/impl.errHeader" = some #[.iface 180 (.pointer (some a0))] ∧
    W.var? Tryz.prog "loop.example/objectlinker/impl.errShort" = some #[.iface 180 (.pointer (some a1))] ∧
    W.var? Tryz.prog "loop.example/objectlinker/impl.errName" = some #[.iface 180 (.pointer (some a2))] ∧
    W.var? Tryz.prog "loop.example/objectlinker/impl.errOther" = some #[.iface 180 (.pointer (some a3))] := by
  rw [MakeChecks.laidMetH_plain _ _ _ (by kernel_rfl)] at h
  obtain ⟨ps, ⟨g0, t0, cs0, f0, p0, q0, hg0, ht0, hv0, hd0, ⟨g1, t1, cs1, f1, p1, q1, hg1, ht1, hv1, hd1, ⟨g2, t2, cs2, f2, p2, q2, hg2, ht2, hv2, hd2, ⟨g3, t3, cs3, f3, p3, q3, hg3, ht3, hv3, hd3, hq3, e3⟩, e2⟩, e1⟩, e0⟩, hnd, hrows⟩ := h
  obtain rfl := Option.some.inj (gHeader.symm.trans hg0)
  obtain rfl := Option.some.inj (gShort.symm.trans hg1)
  obtain rfl := Option.some.inj (gName.symm.trans hg2)
  obtain rfl := Option.some.inj (gOther.symm.trans hg3)
  obtain rfl := Option.some.inj (tHeader.symm.trans ht0)
  obtain rfl := Option.some.inj (tShort.symm.trans ht1)
  obtain rfl := Option.some.inj (tName.symm.trans ht2)
  obtain rfl := Option.some.inj (tOther.symm.trans ht3)
  subst e3
  subst e2
  subst e1
  subst e0
  obtain ⟨l0⟩ := cs0
  obtain ⟨l1⟩ := cs1
  obtain ⟨l2⟩ := cs2
  obtain ⟨l3⟩ := cs3
  have ok0 : ∀ u v, l0 = [.iface u v] → Value.okWide Tryz.prog W .any 0 u v := fun u v e => by
    subst e
    exact (hrows 0 0 (by simp [MemPlace.row])).2 u v (by simpa using World.var?_cell hg0 hv0 0)
  have ok1 : ∀ u v, l1 = [.iface u v] → Value.okWide Tryz.prog W .any 0 u v := fun u v e => by
    subst e
    exact (hrows 2 0 (by simp [MemPlace.row])).2 u v (by simpa using World.var?_cell hg1 hv1 0)
  have ok2 : ∀ u v, l2 = [.iface u v] → Value.okWide Tryz.prog W .any 0 u v := fun u v e => by
    subst e
    exact (hrows 3 0 (by simp [MemPlace.row])).2 u v (by simpa using World.var?_cell hg2 hv2 0)
  have ok3 : ∀ u v, l3 = [.iface u v] → Value.okWide Tryz.prog W .any 0 u v := fun u v e => by
    subst e
    exact (hrows 1 0 (by simp [MemPlace.row])).2 u v (by simpa using World.var?_cell hg3 hv3 0)
  obtain ⟨a0, s0, rfl, -⟩ := errorString_of_trod Tryz.underlying70 rowE Tryz.underlying180 Tryz.underlying198 rfl rfl Tryz.underlying9 cellsE cellsStr hd0 ok0
  obtain ⟨a1, s1, rfl, -⟩ := errorString_of_trod Tryz.underlying70 rowE Tryz.underlying180 Tryz.underlying198 rfl rfl Tryz.underlying9 cellsE cellsStr hd1 ok1
  obtain ⟨a2, s2, rfl, -⟩ := errorString_of_trod Tryz.underlying70 rowE Tryz.underlying180 Tryz.underlying198 rfl rfl Tryz.underlying9 cellsE cellsStr hd2 ok2
  obtain ⟨a3, s3, rfl, -⟩ := errorString_of_trod Tryz.underlying70 rowE Tryz.underlying180 Tryz.underlying198 rfl rfl Tryz.underlying9 cellsE cellsStr hd3 ok3
  exact ⟨a0, a1, a2, a3, hv0, hv1, hv2, hv3⟩
theorem cell_block {W : World} {p : Addr} {v : Value} (h : W.cell? p = some v) : p.block < W.heap.size := by
  rcases Nat.lt_or_ge p.block W.heap.size with h' | h'
  · exact h'
  · simp [World.cell?, Array.getElem?_eq_none h'] at h
theorem errs_at {W : World} {v0 v1 v2 v3 : Value} {t : TypeId}
    (h0 : W.var? Tryz.prog "loop.example/objectlinker/impl.errHeader" = some #[.iface t v0]) (h1 : W.var? Tryz.prog "loop.example/objectlinker/impl.errShort" = some #[.iface t v1])
    (h2 : W.var? Tryz.prog "loop.example/objectlinker/impl.errName" = some #[.iface t v2]) (h3 : W.var? Tryz.prog "loop.example/objectlinker/impl.errOther" = some #[.iface t v3]) : Errs W := by
  have c0 : W.cell? ⟨0, 0, none⟩ = some (.iface t v0) := by simpa using World.var?_cell gHeader h0 0
  have c1 : W.cell? ⟨2, 0, none⟩ = some (.iface t v1) := by simpa using World.var?_cell gShort h1 0
  have c2 : W.cell? ⟨3, 0, none⟩ = some (.iface t v2) := by simpa using World.var?_cell gName h2 0
  have c3 : W.cell? ⟨1, 0, none⟩ = some (.iface t v3) := by simpa using World.var?_cell gOther h3 0
  have b0 : 0 < W.heap.size := cell_block c0
  have b1 : 2 < W.heap.size := cell_block c1
  have b2 : 3 < W.heap.size := cell_block c2
  have b3 : 1 < W.heap.size := cell_block c3
  exact ⟨by unfold errTop; omega, ⟨_, _, c0⟩, ⟨_, _, c1⟩, ⟨_, _, c2⟩, ⟨_, _, c3⟩⟩
theorem vars_read {H : Type} (enc : TypeId × Value → H) {W : World} {x0 x1 x2 x3 : Value} (h0 : W.var? Tryz.prog "loop.example/objectlinker/impl.errHeader" = some #[x0]) (h1 : W.var? Tryz.prog "loop.example/objectlinker/impl.errOther" = some #[x1])
    (h2 : W.var? Tryz.prog "loop.example/objectlinker/impl.errShort" = some #[x2]) (h3 : W.var? Tryz.prog "loop.example/objectlinker/impl.errName" = some #[x3]) (i0 : IsIface x0) (i1 : IsIface x1) (i2 : IsIface x2) (i3 : IsIface x3) (sp : Nat → Bool) :
    DataW.TrodVars enc Tryz.prog W sp ["loop.example/objectlinker/impl.errHeader", "loop.example/objectlinker/impl.errOther", "loop.example/objectlinker/impl.errShort", "loop.example/objectlinker/impl.errName"] [tok enc x0, tok enc x1, tok enc x2, tok enc x3]
      [.cell 0 0, .cell 1 0, .cell 2 0, .cell 3 0] :=
  ⟨_, _, #[x0], 1, [], _, gHeader, tHeader, h0, trod_held Tryz.underlying70 i0 0, ⟨_, _, #[x1], 1, [], _, gOther, tOther, h1, trod_held Tryz.underlying70 i1 0, ⟨_, _, #[x2], 1, [], _, gShort, tShort, h2, trod_held Tryz.underlying70 i2 0, ⟨_, _, #[x3], 1, [], [], gName, tName, h3, trod_held Tryz.underlying70 i3 0, rfl, rfl⟩, rfl⟩, rfl⟩, rfl⟩
theorem var_below {W W' : World} {n : String} {cs : Array Value} (h : W.var? Tryz.prog n = some cs) (hb : Below W.heap.size W W') : W'.var? Tryz.prog n = some cs := by
  unfold World.var? at h ⊢
  cases hg : Tryz.prog.globalNamed n with
  | none => simp [hg] at h
  | some g =>
    simp only [hg, Option.bind_some] at h ⊢
    have hlt : g < W.heap.size := by
      rcases Nat.lt_or_ge g W.heap.size with h' | h'
      · exact h'
      · simp [Array.getElem?_eq_none h'] at h
    rw [hb.block g hlt]
    exact h
abbrev sHeader : ByteArray := ⟨#[116, 104, 101, 114, 101, 32, 105, 115, 32, 110, 111, 32, 104, 101, 97, 100, 101, 114]⟩
abbrev sShort : ByteArray := ⟨#[98, 121, 116, 101, 115, 32, 97, 114, 101, 32, 109, 105, 115, 115, 105, 110, 103]⟩
abbrev sName : ByteArray := ⟨#[116, 104, 101, 114, 101, 32, 105, 115, 32, 110, 111, 32, 110, 97, 109, 101, 32, 97, 116, 32, 105, 116, 115, 32, 112, 108, 97, 99, 101]⟩
abbrev sOther : ByteArray := ⟨#[116, 104, 101, 32, 111, 98, 106, 101, 99, 116, 32, 105, 115, 32, 119, 114, 105, 116, 116, 101, 110, 32, 97, 115, 32, 111, 116, 104, 101, 114, 32, 98, 121, 116, 101, 115]⟩
noncomputable def lowE : Nat := (World.holding Tryz.prog default ⟨#[], #[], []⟩).heap.size
def pointE (k : Nat) : Obj → Obj
  | .cells _ t frozen => .cells #[.iface 180 (.pointer (some ⟨k, 0, none⟩))] t frozen
  | o => o
noncomputable def laidWorld (os : Os) : World :=
  let w0 := World.holding Tryz.prog os ⟨#[.cells #[.string sHeader] 198, .cells #[.string sShort] 198, .cells #[.string sName] 198, .cells #[.string sOther] 198], #[], []⟩
  { w0 with heap := (((w0.heap.modify 0 (pointE lowE)).modify 2 (pointE (lowE + 1))).modify 3 (pointE (lowE + 2))).modify 1 (pointE (lowE + 3)) }
theorem laidWorld_met (os : Os) (args : Array Value) : laidMet Tryz.prog Rows.fnReadObjectRow.laid ((laidWorld os).forCall (fun _ _ => 0) ⟨#[], args, []⟩).memory :=
  laidMet_of_run' 8 (by kernel_rfl) (by kernel_rfl)
theorem laidWorld_metH (os : Os) (args : Array Value) : laidMetH Tryz.prog Rows.fnReadObjectRow.laid ((laidWorld os).forCall (fun _ _ => 0) ⟨#[], args, []⟩).memory := by
  rw [MakeChecks.laidMetH_plain _ _ _ (by kernel_rfl)]
  exact laidWorld_met os args

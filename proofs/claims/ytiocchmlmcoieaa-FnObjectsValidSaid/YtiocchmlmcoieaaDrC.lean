/-
  Contract of the draw of a symbol. Sections that were drawn, one behind the other. The draw of a symbol and sections.
-/
import Derived.Deep.Cut
import Derived.Deep.CutRange
import Derived.Deep.CutBlock
import Derived.Deep.RegionHeld3
import Derived.IntWalk
import Derived.Laws.ResultCell
import Derived.Test.YtiocchmlmcoieaaSecs
import Derived.Test.YtiocchmlmcoieaaDrawN
import Derived.Test.YtiocchmlmcoieaaDrA
import Derived.Test.YtiocchmlmcoieaaRegionV
import Derived.Test.YtiocchmlmcoieaaSR
/- Contract of the draw of a symbol. -/
namespace Go.Proofs.Ytiocchmlmcoieaa
open Go.RowKit

/-- The cells of sections, in a row that is not the reader's block. -/
def RowX (w : World) (g : Nat) (a : Option Addr) (l : List Sp) : Prop :=
  0 < l.length → ∃ b off, a = some ⟨b, off, none⟩ ∧ b < w.heap.size ∧ b ≠ g ∧ ∀ i y, l[i]? = some y → SecAt w b (off + i * 6) y
theorem RowX.grown {w w' : World} {g : Nat} {a : Option Addr} {l : List Sp} (h : RowX w g a l) (hg : w.grownBy w' (some g)) : RowX w' g a l := fun hn => by
  obtain ⟨b, off, ha, hb, hbg, hc⟩ := h hn
  exact ⟨b, off, ha, Nat.lt_of_lt_of_le hb hg.size, hbg, fun i y hi => (hc i y hi).keep fun _ => World.cell?_of_block (hg.block b hb (fun e => by injection e with e; exact hbg e))⟩
theorem RowX.alloc {w : World} {g : Nat} {a : Option Addr} {l : List Sp} (h : RowX w g a l) (o : Obj) : RowX (w.alloc o) g a l := fun hn => by
  obtain ⟨b, off, ha, hb, hbg, hc⟩ := h hn
  exact ⟨b, off, ha, by simp; omega, hbg, fun i y hi => (hc i y hi).keep fun j => World.cell?_alloc_lt _ _ _ (by show b < w.heap.size; exact hb)⟩
/-- A symbol of small numbers. -/
structure Sm.small (m : Sm) : Prop where
  name : m.name.size ≤ 9
  bind0 : -1 ≤ m.bind
  bind1 : m.bind ≤ 3
  loc0 : -3 ≤ m.loc
  loc1 : m.loc ≤ 100
  value0 : -1 ≤ m.value
  value1 : m.value ≤ 60001
/-- The symbol that is being drawn, in its block; nothing that was there has changed but the reader. -/
structure DY (w W : World) (B g gs : Nat) (P : Int) (m : Sm) : Prop where
  rd : Rd W B g P
  grown : w.grownBy W (some g)
  res : Has W w.heap.size 82 #[.string ⟨#[]⟩, .int .i64 0, .int .i64 0, .int .i64 0]
  high : w.heap.size < gs
  sym : Has W gs 82 #[.string m.name, .int .i64 m.bind, .int .i64 m.loc, .int .i64 m.value]
  small : m.small
section
variable {w W W' : World} {B g gs : Nat} {P P' : Int} {m : Sm}
theorem DY.more (d : DY w W B g gs P m) (hP : P ≤ P') : DY w W B g gs P' m := { d with rd := d.rd.mono hP }
theorem DY.pick (d : DY w W B g gs P m) (hl : g < w.heap.size) (hr : Rd W' B g P') (hg : W.grownBy W' (some g)) : DY w W' B g gs P' m :=
  ⟨hr, only_trans d.grown hg, d.res.grown hg (by simp; omega), d.high, d.sym.grown hg (by have := d.high; simp; omega), d.small⟩
theorem DY.alloc (d : DY w W B g gs P m) (o : Obj) : DY w (W.alloc o) B g gs P m :=
  ⟨d.rd.alloc o, only_alloc d.grown o, d.res.alloc o, d.high, d.sym.alloc o, d.small⟩
theorem DY.kept (d : DY w W B g gs P m) (_ : g < w.heap.size) (hg : W.grownBy W' none) : DY w W' B g gs P m :=
  ⟨d.rd.grown hg (by simp), only_trans d.grown ⟨hg.os, hg.tape, hg.output, hg.size, fun k hk _ => hg.block k hk (by simp)⟩, d.res.grown hg (by simp), d.high, d.sym.grown hg (by simp), d.small⟩
/-- A field of the symbol is set. -/
theorem DY.put (d : DY w W B g gs P m) (hl : g < w.heap.size) (k : Nat) (u : Value) {t : Sm} (ht : t.small)
    (he : (#[.string m.name, .int .i64 m.bind, .int .i64 m.loc, .int .i64 m.value] : Array Value).setIfInBounds k u = #[.string t.name, .int .i64 t.bind, .int .i64 t.loc, .int .i64 t.value]) :
    DY w (W.setCell ⟨gs, k, none⟩ u) B g gs P t := by
  have hg : W.grownBy (W.setCell ⟨gs, k, none⟩ u) (some gs) := only_put' (g := gs) k u
  have hh := d.high
  have hB := d.rd.1
  have hgr : w.grownBy (W.setCell ⟨gs, k, none⟩ u) (some g) := ⟨hg.os.trans d.grown.os, hg.tape.trans d.grown.tape, hg.output.trans d.grown.output, Nat.le_trans d.grown.size hg.size, fun i hi hne => (hg.block i (Nat.lt_of_lt_of_le hi d.grown.size) (fun e => by injection e with e; omega)).trans (d.grown.block i hi hne)⟩
  refine ⟨d.rd.grown hg (fun j hj => by injection hj with hj; omega), hgr, d.res.away (p := ⟨gs, k, none⟩) (by show _ ≠ gs; omega) u, hh, ?_, ht⟩
  rw [← he]; exact d.sym.put k u
end
/-- What the draw of a symbol leaves. -/
def DrawnY (w : World) (B g : Nat) (P : Int) (e : Ending) (w' : World) : Prop :=
  ∃ m : Sm, e = .returned m.agg ∧ m.small ∧ Rd w' B g (P + 30) ∧ w.grownBy w' (some g)
set_option maxRecDepth 100000 in
set_option maxHeartbeats 2000000 in
theorem l20Symbol_any (w : World) (B g : Nat) (P n : Int) (h : Rd w B g P) (hP : P ≤ 100000) (hn : 0 ≤ n) (hn' : n ≤ 4294967296) (a : Option Addr) (c nl : Nat) (l : List Sp) (hnl : nl = l.length) (hl8 : nl ≤ 100) (hrow : RowX w g a l) (hlong : ∀ y ∈ l, 0 ≤ y.s.long ∧ y.s.long ≤ 100 ∧ y.s.bytes.length ≤ 100) :
    Calls Try.prog 69 #[.pointer (some ⟨g, 0, none⟩), .slice a nl c, .int .i64 n] w (DrawnY w B g P) := by
  have hgl := h.lt
  have HNL := hidden hnl
  have HLG := hidden hlong
  have HRW := hidden hrow
  clear hnl hlong hrow
  go_enter Try.func69, Try.ntmps69
  go_wp2_with fail
  refine (l20Name_any _ B g P 0 (h.alloc _) (by omega) (by omega) (by omega)).mono ?_
  rintro e w1 ⟨nm, rfl, hnm, hr1, hg1⟩
  have hres1 : Has w1 w.heap.size 82 #[.string ⟨#[]⟩, .int .i64 0, .int .i64 0, .int .i64 0] := (Has.new w _ _).grown hg1 (by simp; omega)
  have hW1 : w.grownBy w1 (some g) := only_trans (only_alloc (World.grownBy.refl w _) _) hg1
  clear h hg1
  go_wp2_with fail
  refine (pick_any _ B g (P + 2) 4 (hr1.alloc _) (by omega) (by omega) (by omega)).mono ?_
  rintro e w2 ⟨y, rfl, y0, y1, hr2, hg2⟩
  obtain ⟨i, rfl⟩ := Int.eq_ofNat_of_zero_le y0
  have hl1 := hr1.lt
  obtain ⟨bd, hbd, bd0, bd1⟩ := lit_read [0, 1, 1, 2] 0 3 ((Has.new w1 _ _).grown hg2 (by simp; omega)) rfl (by decide) i (by simp; omega)
  have hres2 := (hres1.alloc _).grown hg2 (by simp; omega)
  have hW2 := only_trans (only_alloc hW1 _) hg2
  have hs2 : w.heap.size < w2.heap.size := hres2.lt
  have D2 : Hid (DY w (w2.alloc (.cells #[.string nm, .int .i64 bd, .int .i64 0, .int .i64 0] 82)) B g w2.heap.size (P + 4) ⟨nm, bd, 0, 0⟩) :=
    ⟨(hr2.alloc _).mono (by omega), only_alloc hW2 _, hres2.alloc _, hs2, Has.new _ _ _, ⟨hnm, by show -1 ≤ bd; omega, by show bd ≤ 3; omega, by show (-3 : Int) ≤ 0; omega, by show (0 : Int) ≤ 100; omega, by show (-1 : Int) ≤ 0; omega, by show (0 : Int) ≤ 60001; omega⟩⟩
  clear hr1 hr2 hg2 hres1 hres2 hW1 hW2
  go_upto_block 0 with fail
  obtain ⟨gs, hgs⟩ : ∃ q, w2.heap.size = q := ⟨_, rfl⟩
  obtain ⟨W, hW⟩ : ∃ W, w2.alloc (.cells #[.string nm, .int .i64 bd, .int .i64 0, .int .i64 0] 82) = W := ⟨_, rfl⟩
  rw [hW, hgs] at D2
  rw [hW, hgs]
  clear hW hgs hs2 hbd
  go_cut [] from 8 (fun wx => ∃ m : Sm, Hid (DY w wx B g gs (P + 10) m))
  case first =>
    go_wp2_with fail
    refine (pick_any W B g (P + 4) 3 D2.out.rd (by omega) (by omega) (by omega)).mono ?_
    rintro e w4 ⟨x4, rfl, x40, x41, hr4, hg4⟩
    have D4 := hidden (D2.out.pick hgl hr4 hg4)
    clear D2 hr4 hg4
    by_cases z4 : x4 = 0
    · have z4' : (x4 == 0) = true := by simp [z4]
      clear z4
      have c1 := D4.out.sym.cell 1
      have c2 := D4.out.sym.cell 2
      have f1 := D4.out.sym.free 1
      have f2 := D4.out.sym.free 2
      have k := D4.out.small
      have D5 := hidden (D4.out.put hgl 2 (.int .i64 (-1)) (t := ⟨nm, bd, -1, 0⟩) ⟨k.name, k.bind0, k.bind1, by show (-3 : Int) ≤ -1; omega, by show (-1 : Int) ≤ 100; omega, k.value0, k.value1⟩ rfl)
      have k2 := D5.out.small
      by_cases b1 : bd ≤ 1
      · have HF := hidden (D5.out.put hgl 1 (.int .i64 1) (t := ⟨nm, 1, -1, 0⟩) ⟨k2.name, by show (-1 : Int) ≤ 1; omega, by show (1 : Int) ≤ 3; omega, k2.loc0, k2.loc1, k2.value0, k2.value1⟩ rfl)
        clear D4 D5 k k2
        go_wp2_with fail
        go_meet
        exact ⟨_, HF.out.more (by omega)⟩
      · have HF := hidden (D5.out.put hgl 1 (.int .i64 bd) (t := ⟨nm, bd, -1, 0⟩) k2 rfl)
        clear D4 D5 k k2
        go_wp2_with fail
        go_meet
        exact ⟨_, HF.out.more (by omega)⟩
    have z4' : (x4 == 0) = false := by simpa using z4
    clear z4
    go_wp2_with fail
    refine (pick_any w4 B g (P + 4 + 1) 6 D4.out.rd (by omega) (by omega) (by omega)).mono ?_
    rintro e w5 ⟨x5, rfl, x50, x51, hr5, hg5⟩
    have D5 := hidden (D4.out.pick hgl hr5 hg5)
    clear hr5 hg5
    by_cases z5 : x5 = 0
    · have z5' : (x5 == 0) = true := by simp [z5]
      clear z5
      have c2 := D5.out.sym.cell 2
      have f2 := D5.out.sym.free 2
      have k := D5.out.small
      have D6 := hidden (D5.out.put hgl 2 (.int .i64 (-2)) (t := ⟨nm, bd, -2, 0⟩) ⟨k.name, k.bind0, k.bind1, by show (-3 : Int) ≤ -2; omega, by show (-2 : Int) ≤ 100; omega, k.value0, k.value1⟩ rfl)
      clear D5 D4 k
      go_wp2_with fail
      refine (pick_any _ B g (P + 4 + 1 + 1) 256 D6.out.rd (by omega) (by omega) (by omega)).mono ?_
      rintro e w6 ⟨x6, rfl, x60, x61, hr6, hg6⟩
      have D7 := hidden (D6.out.pick hgl hr6 hg6)
      clear D6 hr6 hg6 c2 f2
      have hw6 : IntKind.i64.wrap (x6 * 16) = x6 * 16 := IntWalk.i64_in _ (by omega)
      go_wp2_with fail
      refine (pick_any _ B g (P + 4 + 1 + 1 + 1) 6 (D7.out.rd.alloc _) (by omega) (by omega) (by omega)).mono ?_
      rintro e w7 ⟨y7, rfl, y70, y71, hr7, hg7⟩
      have hl6 := D7.out.rd.lt
      have D8 := hidden ((D7.out.alloc _).pick hgl hr7 hg7)
      obtain ⟨q, hq', hq2⟩ : ∃ q : Nat, y7 / 5 = (q : Int) ∧ q < 2 := ⟨(y7 / 5).toNat, by omega, by omega⟩
      have hq : Int.tdiv y7 5 = (q : Int) := (Int.tdiv_eq_ediv_of_nonneg y70).trans hq'
      obtain ⟨z, hz, z0, z1⟩ := lit_read [x6 * 16, 60000] 0 60001 ((Has.new w6 _ _).grown hg7 (by simp; omega)) rfl (by intro u hu; simp at hu; omega) q (by simpa using hq2)
      have c3 := D8.out.sym.cell 3
      have f3 := D8.out.sym.free 3
      have k := D8.out.small
      have HF := hidden (D8.out.put hgl 3 (.int .i64 z) (t := ⟨nm, bd, -2, z⟩) ⟨k.name, k.bind0, k.bind1, k.loc0, k.loc1, by show (-1 : Int) ≤ z; omega, by show z ≤ 60001; omega⟩ rfl)
      clear D7 D8 hr7 hg7 k
      go_wp2_with fail
      go_meet
      exact ⟨_, HF.out.more (by omega)⟩
    have z5' : (x5 == 0) = false := by simpa using z5
    clear z5
    by_cases n0 : nl = 0
    · have n0' : ((nl : Int) == 0) = true := by simp [n0]
      clear n0
      have c2 := D5.out.sym.cell 2
      have f2 := D5.out.sym.free 2
      have k := D5.out.small
      have D6 := hidden (D5.out.put hgl 2 (.int .i64 (-2)) (t := ⟨nm, bd, -2, 0⟩) ⟨k.name, k.bind0, k.bind1, by show (-3 : Int) ≤ -2; omega, by show (-2 : Int) ≤ 100; omega, k.value0, k.value1⟩ rfl)
      clear D5 D4 k
      go_wp2_with fail
      refine (pick_any _ B g (P + 4 + 1 + 1) 256 D6.out.rd (by omega) (by omega) (by omega)).mono ?_
      rintro e w6 ⟨x6, rfl, x60, x61, hr6, hg6⟩
      have D7 := hidden (D6.out.pick hgl hr6 hg6)
      clear D6 hr6 hg6 c2 f2
      have hw6 : IntKind.i64.wrap (x6 * 16) = x6 * 16 := IntWalk.i64_in _ (by omega)
      go_wp2_with fail
      refine (pick_any _ B g (P + 4 + 1 + 1 + 1) 6 (D7.out.rd.alloc _) (by omega) (by omega) (by omega)).mono ?_
      rintro e w7 ⟨y7, rfl, y70, y71, hr7, hg7⟩
      have hl6 := D7.out.rd.lt
      have D8 := hidden ((D7.out.alloc _).pick hgl hr7 hg7)
      obtain ⟨q, hq', hq2⟩ : ∃ q : Nat, y7 / 5 = (q : Int) ∧ q < 2 := ⟨(y7 / 5).toNat, by omega, by omega⟩
      have hq : Int.tdiv y7 5 = (q : Int) := (Int.tdiv_eq_ediv_of_nonneg y70).trans hq'
      obtain ⟨z, hz, z0, z1⟩ := lit_read [x6 * 16, 60000] 0 60001 ((Has.new w6 _ _).grown hg7 (by simp; omega)) rfl (by intro u hu; simp at hu; omega) q (by simpa using hq2)
      have c3 := D8.out.sym.cell 3
      have f3 := D8.out.sym.free 3
      have k := D8.out.small
      have HF := hidden (D8.out.put hgl 3 (.int .i64 z) (t := ⟨nm, bd, -2, z⟩) ⟨k.name, k.bind0, k.bind1, k.loc0, k.loc1, by show (-1 : Int) ≤ z; omega, by show z ≤ 60001; omega⟩ rfl)
      clear D7 D8 hr7 hg7 k
      go_wp2_with fail
      go_meet
      exact ⟨_, HF.out.more (by omega)⟩
    have n0' : ((nl : Int) == 0) = false := by simp; omega
    go_wp2_with fail
    refine (pick_any w5 B g (P + 4 + 1 + 1) nl D5.out.rd (by omega) (by omega) (by omega)).mono ?_
    rintro e w6 ⟨x6, rfl, x60, x61, hr6, hg6⟩
    obtain ⟨i6, rfl⟩ := Int.eq_ofNat_of_zero_le x60
    have D6 := hidden (D5.out.pick hgl hr6 hg6)
    have c2 := D6.out.sym.cell 2
    have f2 := D6.out.sym.free 2
    have k := D6.out.small
    have D7 := hidden (D6.out.put hgl 2 (.int .i64 i6) (t := ⟨nm, bd, i6, 0⟩) ⟨k.name, k.bind0, k.bind1, by show (-3 : Int) ≤ (i6 : Int); omega, by show (i6 : Int) ≤ 100; omega, k.value0, k.value1⟩ rfl)
    have hil : i6 < l.length := by rw [← HNL.out]; omega
    obtain ⟨y, hy⟩ : ∃ y, l[i6] = y := ⟨_, rfl⟩
    obtain ⟨lg0, lg1, lgb⟩ := HLG.out y (by rw [← hy]; exact List.getElem_mem hil)
    obtain ⟨b, off, rfl, -, -, hcs⟩ := (HRW.out.grown D7.out.grown) (by omega)
    obtain ⟨p0, p1, p2, p3, p4, p5⟩ := hcs i6 y (by rw [List.getElem?_eq_getElem hil, hy])
    have HZ := hidden (fun W => sectionSize'_any W y.s y.a1 y.c1 y.a2 y.c2 (by omega))
    unfold Sx.agg at HZ
    obtain ⟨lg, hlg⟩ : ∃ x, y.s.long = x := ⟨_, rfl⟩
    rw [hlg] at HZ lg0 lg1
    have hi6 : (i6 : Int) < (nl : Int) := by omega
    have c2' := D7.out.sym.cell 2
    clear D4 D5 D6 hr6 hg6 k hcs hy hlg hil
    go_wp2_with fail
    refine (HZ.out _).mono ?_
    clear HZ
    rintro e w7 ⟨rfl, hb7⟩
    have D8 := hidden (D7.out.kept hgl ⟨hb7.os, hb7.tape, hb7.output, hb7.size, fun j hj _ => hb7.block j hj⟩)
    clear D7 hb7 p0 p1 p2 p3 p4 p5 c2 f2 c2'
    have hw7 : IntKind.i64.wrap (lg + 1) = lg + 1 := IntWalk.i64_in _ (by omega)
    go_wp2_with fail
    refine (pick_any w7 B g (P + 4 + 1 + 1 + 1) (lg + 1) D8.out.rd (by omega) (by omega) (by omega)).mono ?_
    rintro e w8 ⟨z, rfl, z0, z1, hr8, hg8⟩
    have D9 := hidden (D8.out.pick hgl hr8 hg8)
    have c3 := D9.out.sym.cell 3
    have f3 := D9.out.sym.free 3
    have k := D9.out.small
    have HF := hidden (D9.out.put hgl 3 (.int .i64 z) (t := ⟨nm, bd, i6, z⟩) ⟨k.name, k.bind0, k.bind1, k.loc0, k.loc1, by show (-1 : Int) ≤ z; omega, by show z ≤ 60001; omega⟩ rfl)
    clear D8 D9 hr8 hg8 k
    go_wp2_with fail
    go_meet
    exact ⟨_, HF.out.more (by omega)⟩
  case rest =>
    obtain ⟨m, D0⟩ := hcut
    clear D2
    go_wp2_with fail
    refine (odd_any wc B g (P + 10) n D0.out.rd (by omega) hn hn').mono ?_
    rintro e w1 ⟨b, rfl, hr1, hg1⟩
    have D1 := hidden (D0.out.pick hgl hr1 hg1)
    clear D0 hr1 hg1
    go_upto_if 62 with fail
    go_cut [] from 8 (fun wx => ∃ m : Sm, Hid (DY w wx B g gs (P + 20) m))
    case first =>
      rcases b with _ | _
      · go_wp2_with fail
        go_meet
        exact ⟨m, D1.out.more (by omega)⟩
      go_wp2_with fail
      refine (pick_any w1 B g (P + 10 + 1) 5 D1.out.rd (by omega) (by omega) (by omega)).mono ?_
      rintro e w2 ⟨x, rfl, x0, x1, hr2, hg2⟩
      have D2 := hidden (D1.out.pick hgl hr2 hg2)
      clear D1 hr2 hg2
      by_cases q0 : x = 0
      · have q0' : (x == 0) = true := by simp [q0]
        clear q0
        go_wp2_with fail
        refine (l20Name_any w2 B g (P + 10 + 1 + 1) 1 D2.out.rd (by omega) (by omega) (by omega)).mono ?_
        rintro e w3 ⟨nm', rfl, hnm', hr3, hg3⟩
        have D3 := hidden (D2.out.pick hgl hr3 hg3)
        have cl := D3.out.sym.cell 0
        have fl := D3.out.sym.free 0
        have k := D3.out.small
        have HF := hidden (D3.out.put hgl 0 (.string nm') (t := { m with name := nm' }) ⟨hnm', k.bind0, k.bind1, k.loc0, k.loc1, k.value0, k.value1⟩ rfl)
        clear D3 D2 hr3 hg3 k
        go_wp2_with fail
        go_meet
        exact ⟨_, HF.out.more (by omega)⟩
      have q0' : (x == 0) = false := by simpa using q0
      by_cases q1 : x = 1
      · have q1' : (x == 1) = true := by simp [q1]
        clear q0 q1
        go_wp2_with fail
        refine (pick_any _ B g (P + 10 + 1 + 1) 2 (D2.out.rd.alloc _) (by omega) (by omega) (by omega)).mono ?_
        rintro e w3 ⟨y, rfl, y0, y1, hr3, hg3⟩
        obtain ⟨i, rfl⟩ := Int.eq_ofNat_of_zero_le y0
        have hl2 := D2.out.rd.lt
        have D3 := hidden ((D2.out.alloc _).pick hgl hr3 hg3)
        obtain ⟨z, hz, z0, z1⟩ := lit_read [-1, 3] (-1) 4 ((Has.new w2 _ _).grown hg3 (by simp; omega)) rfl (by intro u hu; simp at hu; omega) i (by simp; omega)
        have cl := D3.out.sym.cell 1
        have fl := D3.out.sym.free 1
        have k := D3.out.small
        have HF := hidden (D3.out.put hgl 1 (.int .i64 z) (t := { m with bind := z }) ⟨k.name, by show (-1 : Int) ≤ z; omega, by show z ≤ 3; omega, k.loc0, k.loc1, k.value0, k.value1⟩ rfl)
        clear D3 D2 hr3 hg3 k
        go_wp2_with fail
        go_meet
        exact ⟨_, HF.out.more (by omega)⟩
      have q1' : (x == 1) = false := by simpa using q1
      by_cases q2 : x = 2
      · have q2' : (x == 2) = true := by simp [q2]
        clear q0 q1 q2
        go_wp2_with fail
        refine (pick_any _ B g (P + 10 + 1 + 1) 2 (D2.out.rd.alloc _) (by omega) (by omega) (by omega)).mono ?_
        rintro e w3 ⟨y, rfl, y0, y1, hr3, hg3⟩
        obtain ⟨i, rfl⟩ := Int.eq_ofNat_of_zero_le y0
        have hl2 := D2.out.rd.lt
        have D3 := hidden ((D2.out.alloc _).pick hgl hr3 hg3)
        obtain ⟨z, hz, z0, z1⟩ := lit_read [-3, (nl : Int)] (-3) 101 ((Has.new w2 _ _).grown hg3 (by simp; omega)) rfl (by intro u hu; simp at hu; omega) i (by simp; omega)
        have cl := D3.out.sym.cell 2
        have fl := D3.out.sym.free 2
        have k := D3.out.small
        have HF := hidden (D3.out.put hgl 2 (.int .i64 z) (t := { m with loc := z }) ⟨k.name, k.bind0, k.bind1, by show (-3 : Int) ≤ z; omega, by show z ≤ 100; omega, k.value0, k.value1⟩ rfl)
        clear D3 D2 hr3 hg3 k
        go_wp2_with fail
        go_meet
        exact ⟨_, HF.out.more (by omega)⟩
      have q2' : (x == 2) = false := by simpa using q2
      by_cases q3 : x = 3
      · have q3' : (x == 3) = true := by simp [q3]
        clear q0 q1 q2 q3
        go_wp2_with fail
        refine (pick_any _ B g (P + 10 + 1 + 1) 2 (D2.out.rd.alloc _) (by omega) (by omega) (by omega)).mono ?_
        rintro e w3 ⟨y, rfl, y0, y1, hr3, hg3⟩
        obtain ⟨i, rfl⟩ := Int.eq_ofNat_of_zero_le y0
        have hl2 := D2.out.rd.lt
        have D3 := hidden ((D2.out.alloc _).pick hgl hr3 hg3)
        obtain ⟨z, hz, z0, z1⟩ := lit_read [-1, 60001] (-1) 60002 ((Has.new w2 _ _).grown hg3 (by simp; omega)) rfl (by intro u hu; simp at hu; omega) i (by simp; omega)
        have cl := D3.out.sym.cell 3
        have fl := D3.out.sym.free 3
        have k := D3.out.small
        have HF := hidden (D3.out.put hgl 3 (.int .i64 z) (t := { m with value := z }) ⟨k.name, k.bind0, k.bind1, k.loc0, k.loc1, by show (-1 : Int) ≤ z; omega, by show z ≤ 60001; omega⟩ rfl)
        clear D3 D2 hr3 hg3 k
        go_wp2_with fail
        go_meet
        exact ⟨_, HF.out.more (by omega)⟩
      have q3' : (x == 3) = false := by simpa using q3
      clear q0 q1 q2 q3
      have c0 := D2.out.sym.cell 0
      have c1 := D2.out.sym.cell 1
      have c2 := D2.out.sym.cell 2
      have c3 := D2.out.sym.cell 3
      have f0 := D2.out.sym.free 0
      have f1 := D2.out.sym.free 1
      have f2 := D2.out.sym.free 2
      have f3 := D2.out.sym.free 3
      have k := D2.out.small
      have E0 := D2.out.put hgl 0 (.string ⟨#[120]⟩) (t := { m with name := ⟨#[120]⟩ }) ⟨(show (ByteArray.mk #[120]).size ≤ 9 by decide), k.bind0, k.bind1, k.loc0, k.loc1, k.value0, k.value1⟩ rfl
      have E1 := E0.put hgl 1 (.int .i64 0) (t := { m with name := ⟨#[120]⟩, bind := 0 }) ⟨(show (ByteArray.mk #[120]).size ≤ 9 by decide), by show (-1 : Int) ≤ 0; omega, by show (0 : Int) ≤ 3; omega, k.loc0, k.loc1, k.value0, k.value1⟩ rfl
      have E2 := E1.put hgl 2 (.int .i64 (-1)) (t := { m with name := ⟨#[120]⟩, bind := 0, loc := -1 }) ⟨(show (ByteArray.mk #[120]).size ≤ 9 by decide), by show (-1 : Int) ≤ 0; omega, by show (0 : Int) ≤ 3; omega, by show (-3 : Int) ≤ -1; omega, by show (-1 : Int) ≤ 100; omega, k.value0, k.value1⟩ rfl
      have HF := hidden (E2.put hgl 3 (.int .i64 0) (t := ⟨⟨#[120]⟩, 0, -1, 0⟩) ⟨(show (ByteArray.mk #[120]).size ≤ 9 by decide), by show (-1 : Int) ≤ 0; omega, by show (0 : Int) ≤ 3; omega, by show (-3 : Int) ≤ -1; omega, by show (-1 : Int) ≤ 100; omega, by show (-1 : Int) ≤ 0; omega, by show (0 : Int) ≤ 60001; omega⟩ rfl)
      clear D2 k E0 E1 E2
      go_wp2_with fail
      go_meet
      exact ⟨_, HF.out.more (by omega)⟩
    case rest =>
      obtain ⟨m, D⟩ := hcut
      have HS := hidden D.out.sym
      have HR := hidden D.out.res
      have hne : w.heap.size ≠ gs := by have := D.out.high; omega
      have z0 : wc.cell? ⟨gs, 0, none⟩ = some (.string m.name) := HS.out.cell 0
      have z1 : wc.cell? ⟨gs, 1, none⟩ = some (.int .i64 m.bind) := HS.out.cell 1
      have z2 : wc.cell? ⟨gs, 2, none⟩ = some (.int .i64 m.loc) := HS.out.cell 2
      have z3 : wc.cell? ⟨gs, 3, none⟩ = some (.int .i64 m.value) := HS.out.cell 3
      have y0 : wc.cell? ⟨w.heap.size, 0, none⟩ = some (.string ⟨#[]⟩) := HR.out.cell 0
      have y1 : wc.cell? ⟨w.heap.size, 1, none⟩ = some (.int .i64 0) := HR.out.cell 1
      have y2 : wc.cell? ⟨w.heap.size, 2, none⟩ = some (.int .i64 0) := HR.out.cell 2
      have y3 : wc.cell? ⟨w.heap.size, 3, none⟩ = some (.int .i64 0) := HR.out.cell 3
      have f0 := HR.out.free 0
      have f1 := HR.out.free 1
      have f2 := HR.out.free 2
      have f3 := HR.out.free 3
      go_wp2_with fail
      have HF : Has ((((wc.setCell ⟨w.heap.size, 0, none⟩ (.string m.name)).setCell ⟨w.heap.size, 1, none⟩ (.int .i64 m.bind)).setCell ⟨w.heap.size, 2, none⟩ (.int .i64 m.loc)).setCell ⟨w.heap.size, 3, none⟩ (.int .i64 m.value)) w.heap.size 82 #[.string m.name, .int .i64 m.bind, .int .i64 m.loc, .int .i64 m.value] := (((HR.out.put 0 _).put 1 _).put 2 _).put 3 _
      have HG : wc.grownBy ((((wc.setCell ⟨w.heap.size, 0, none⟩ (.string m.name)).setCell ⟨w.heap.size, 1, none⟩ (.int .i64 m.bind)).setCell ⟨w.heap.size, 2, none⟩ (.int .i64 m.loc)).setCell ⟨w.heap.size, 3, none⟩ (.int .i64 m.value)) (some w.heap.size) := (only_trans (only_trans (only_trans (only_put' (g := w.heap.size) 0 _) (only_put' (g := w.heap.size) 1 _)) (only_put' (g := w.heap.size) 2 _)) (only_put' (g := w.heap.size) 3 _))
      refine bodyPost_ret (results_cell_row rfl _ _ w.heap.size 82 #[.string m.name, .int .i64 m.bind, .int .i64 m.loc, .int .i64 m.value] (0, 0) _ rfl HF Try.underlying82 rfl (by kernel_rfl)) rfl ?_
      obtain ⟨WF, hWF⟩ : ∃ q, ((((wc.setCell ⟨w.heap.size, 0, none⟩ (.string m.name)).setCell ⟨w.heap.size, 1, none⟩ (.int .i64 m.bind)).setCell ⟨w.heap.size, 2, none⟩ (.int .i64 m.loc)).setCell ⟨w.heap.size, 3, none⟩ (.int .i64 m.value)) = q := ⟨_, rfl⟩
      rw [hWF] at HF HG
      rw [hWF]
      clear hWF
      refine ⟨m, rfl, D.out.small, (D.out.rd.grown HG (fun j hj => by injection hj with hj; have := D.out.rd.1; omega)).mono (by omega), ?_⟩
      exact ⟨HG.os.trans D.out.grown.os, HG.tape.trans D.out.grown.tape, HG.output.trans D.out.grown.output, Nat.le_trans D.out.grown.size HG.size, fun i hi hne => (HG.block i (Nat.lt_of_lt_of_le hi D.out.grown.size) (fun e => by injection e with e; omega)).trans (D.out.grown.block i hi hne)⟩

end Go.Proofs.Ytiocchmlmcoieaa
/- Sections that were drawn, one behind the other. -/
namespace Go.Proofs.Ytiocchmlmcoieaa
open Go.RowKit

structure SL (W : World) (base : Nat) (v : Value) (l : List Sp) : Prop where
  row : W.ownsRow base 42 6 v l.length (flatS l)
  small : ∀ y ∈ l, y.s.small
  own1 : ∀ y ∈ l, W.ownsRow base 5 1 (.slice y.a1 y.s.bytes.length y.c1) y.s.bytes.length (y.s.bytes.map (Value.int .u8))
  own2 : ∀ y ∈ l, W.ownsRow base 119 4 (.slice y.a2 y.s.fixs.length y.c2) y.s.fixs.length (flatF y.s.fixs)
section
variable {W W' : World} {base : Nat} {v : Value} {l : List Sp}
theorem SL.low (h : SL W base v l) {g : Nat} (hg : g < base) (hw : W.grownBy W' (some g)) : SL W' base v l :=
  ⟨h.row.kept hw (row_high h.row hg), h.small, fun y hy => (h.own1 y hy).kept hw (row_high (h.own1 y hy) hg), fun y hy => (h.own2 y hy).kept hw (row_high (h.own2 y hy) hg)⟩
theorem SL.kept (h : SL W base v l) (hw : W.grownBy W' none) : SL W' base v l :=
  ⟨h.row.kept hw (Classical.em _), h.small, fun y hy => (h.own1 y hy).kept hw (Classical.em _), fun y hy => (h.own2 y hy).kept hw (Classical.em _)⟩
theorem SL.alloc (h : SL W base v l) (o : Obj) : SL (W.alloc o) base v l :=
  ⟨h.row.alloc o, h.small, fun y hy => (h.own1 y hy).alloc o, fun y hy => (h.own2 y hy).alloc o⟩
/-- A block of another type is written. -/
theorem SL.other (h : SL W base v l) {b : Nat} {T : TypeId} {cs : Array Value} (hb : Has W b T cs) (h1 : 42 ≠ T) (h2 : 5 ≠ T) (h3 : 119 ≠ T) (hw : W.grownBy W' (some b)) : SL W' base v l :=
  ⟨h.row.kept hw (row_apart h.row hb h1), h.small, fun y hy => (h.own1 y hy).kept hw (row_apart (h.own1 y hy) hb h2), fun y hy => (h.own2 y hy).kept hw (row_apart (h.own2 y hy) hb h3)⟩
/-- A row of another type is appended to. -/
theorem SL.row' (h : SL W base v l) {base' : Nat} {T : TypeId} {size : Nat} {u : Value} {n : Nat} {xs : List Value} (hu : W.ownsRow base' T size u n xs) (h1 : 42 ≠ T) (h2 : 5 ≠ T) (h3 : 119 ≠ T) (hw : W.grownBy W' u.ownBlock) : SL W' base v l :=
  ⟨h.row.kept hw (rows_apart h.row hu h1), h.small, fun y hy => (h.own1 y hy).kept hw (rows_apart (h.own1 y hy) hu h2), fun y hy => (h.own2 y hy).kept hw (rows_apart (h.own2 y hy) hu h3)⟩
/-- A section is put behind the others. -/
theorem SL.app (h : SL W base v l) {y : Sp} (hs : y.s.small) (h1 : W.ownsRow base 5 1 (.slice y.a1 y.s.bytes.length y.c1) y.s.bytes.length (y.s.bytes.map (Value.int .u8)))
    (h2 : W.ownsRow base 119 4 (.slice y.a2 y.s.fixs.length y.c2) y.s.fixs.length (flatF y.s.fixs)) {v' : Value}
    (hr : W'.ownsRow base 42 6 v' (l.length + 1) (flatS l ++ [.string y.s.name, .int .i64 y.s.kind, .int .i64 y.s.align, .slice y.a1 y.s.bytes.length y.c1, .int .i64 y.s.size, .slice y.a2 y.s.fixs.length y.c2])) (hw : W.grownBy W' v.ownBlock) : SL W' base v' (l ++ [y]) := by
  have k1 : ∀ z ∈ l ++ [y], W.ownsRow base 5 1 (.slice z.a1 z.s.bytes.length z.c1) z.s.bytes.length (z.s.bytes.map (Value.int .u8)) := fun z hz => by
    rcases List.mem_append.1 hz with h' | h'
    · exact h.own1 z h'
    · simp only [List.mem_singleton] at h'; rw [h']; exact h1
  have k2 : ∀ z ∈ l ++ [y], W.ownsRow base 119 4 (.slice z.a2 z.s.fixs.length z.c2) z.s.fixs.length (flatF z.s.fixs) := fun z hz => by
    rcases List.mem_append.1 hz with h' | h'
    · exact h.own2 z h'
    · simp only [List.mem_singleton] at h'; rw [h']; exact h2
  refine ⟨?_, fun z hz => ?_, fun z hz => (k1 z hz).kept hw (rows_apart (k1 z hz) h.row (by decide)), fun z hz => (k2 z hz).kept hw (rows_apart (k2 z hz) h.row (by decide))⟩
  · rw [flatS_snoc, List.length_append]; exact hr
  · rcases List.mem_append.1 hz with h' | h'
    · exact h.small z h'
    · simp only [List.mem_singleton] at h'; rw [h']; exact hs
theorem SL.cells {a : Option Addr} {c : Nat} (h : SL W base (.slice a l.length c) l) : 0 < l.length → ∃ b, a = some ⟨b, 0, none⟩ ∧ base ≤ b ∧ b < W.heap.size ∧ ∀ i y, l[i]? = some y → SecAt W b (i * 6) y := fun hn => by
  rcases h.row.2 with ⟨_, h0⟩ | ⟨g, cap, cur, hv, hgb, hh, _, _, _, ht⟩
  · omega
  have hh' : Has W g 42 cur := hh
  injection hv with hv _
  refine ⟨g, hv, hgb, hh'.lt, fun i y hi => ?_⟩
  have hil : i < l.length := (List.getElem?_eq_some_iff.1 hi).1
  obtain ⟨e0, e1, e2, e3, e4, e5⟩ := flatS_at l i y hi
  have key : ∀ j (u : Value), j < l.length * 6 → (flatS l)[j]? = some u → W.cell? ⟨g, j, none⟩ = some u := fun j u hj hu => by
    rw [hh'.cell j, ← Array.getElem?_toList]
    rw [← ht, List.getElem?_take, if_pos hj] at hu
    exact hu
  exact ⟨key _ _ (by omega) e0, key _ _ (by omega) e1, key _ _ (by omega) e2, key _ _ (by omega) e3, key _ _ (by omega) e4, key _ _ (by omega) e5⟩
theorem SL.rowX {a : Option Addr} {c g : Nat} (h : SL W base (.slice a l.length c) l) (hg : g < base) : RowX W g a l := fun hn => by
  obtain ⟨b, ha, hb, hl, hc⟩ := h.cells hn
  exact ⟨b, 0, ha, hl, by omega, fun i y hi => by rw [Nat.zero_add]; exact hc i y hi⟩
theorem SL.sects {a : Option Addr} {c : Nat} (h : SL W base (.slice a l.length c) l) : Sects W W.heap.size a l :=
  ⟨fun hn => by
    obtain ⟨b, ha, hb, hl, hc⟩ := h.cells hn
    exact ⟨b, 0, ha, hl, fun i y hi => by rw [Nat.zero_add]; exact hc i y hi⟩,
   fun y hy => by
    obtain ⟨b1, d1, e1, hd1, hi1⟩ := ints_of_own' (h.own1 y hy) (h.small y hy).wf
    cases e1
    exact hi1,
   fun y hy => fixs_of_own (h.own2 y hy)⟩
theorem SL.val {v : Value} (h : SL W base v l) : ∃ a c, v = .slice a l.length c := by
  rcases h.row.2 with ⟨e, h0⟩ | ⟨g, cap, cur, e, _⟩
  · exact ⟨_, _, by rw [e, h0]⟩
  · exact ⟨_, _, e⟩
theorem Sx.small.long {s : Sx} (h : s.small) : 0 ≤ s.long ∨ s.long = -1 := by
  unfold Sx.long
  have := h.size0
  split <;> omega
end

end Go.Proofs.Ytiocchmlmcoieaa
/- The draw of a symbol and sections. -/
namespace Go.Proofs.Ytiocchmlmcoieaa
open Go.RowKit

theorem results_cell_row3 {P : Program} {fn : Func} {p u : Tmp} {ty : TypeId} (h : fn.results = #[.cell p ty, .tmp u]) (tmps : Array Value) (w : World) (g : Nat) (t : TypeId) (cs : Array Value) (fr : Nat × Nat) (d : TypeDesc)
    (hp : tmps.getD p undef = .pointer (some ⟨g, 0, none⟩)) (hg : w.heap[g]? = some (.cells cs t fr))
    (hu : P.underlying ty = some d) (hd : (match d with | .struct _ | .array _ _ => true | _ => false) = true) (hi : (P.info? ty).map (·.size) = some cs.size) :
    (results fn tmps).run P w = .ok (.tuple #[.agg cs, tmps.getD u undef]) w := by
  rw [results_cell_tmp h, hp]
  simp [asAddr, run_loadVar_row w g t ty cs fr d hg hu hd hi, Result.andThen]
theorem Sx.small.longs {s : Sx} (h : s.small) (hz : 0 ≤ s.size) : 0 ≤ s.long ∧ s.long ≤ 100 ∧ s.bytes.length ≤ 100 := by
  have := h.size1
  have := h.bytes
  unfold Sx.long
  split <;> omega























































































































end Go.Proofs.Ytiocchmlmcoieaa

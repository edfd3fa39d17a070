/-
  The draws of headers.
-/
import Derived.Test.YtgpnjnpcgmhaaaaGetHd
import Derived.Test.YtgpnjnpcgmhaaaaDrawN
import Derived.Test.YtgpnjnpcgmhaaaaDrawB
import Derived.Deep.CutBlock
import Derived.Deep.RegionHeld3
namespace Go.Proofs.Ytgpnjnpcgmhaaaa
open Go.RowKit

/-- A header of small numbers. -/
structure Hd.small (m : Hd) : Prop where
  sec0 : -1 ≤ m.sec
  sec1 : m.sec ≤ 9
  sym0 : 0 ≤ m.sym
  sym1 : m.sym ≤ 13
  fix0 : -1 ≤ m.fix
  fix1 : m.fix ≤ 48
  nam0 : 0 ≤ m.nam
  nam1 : m.nam ≤ 401
/-- The header that is being drawn, in its block; nothing that was there has changed but the reader. -/
structure DH (w W : World) (B g gs : Nat) (P : Int) (m : Hd) : Prop where
  rd : Rd W B g P
  grown : w.grownBy W (some g)
  res : Has W w.heap.size 24 #[.int .i64 0, .int .i64 0, .int .i64 0, .int .i64 0]
  high : w.heap.size < gs
  hd : Has W gs 24 #[.int .i64 m.sec, .int .i64 m.sym, .int .i64 m.fix, .int .i64 m.nam]
  small : m.small
section
variable {w W W' : World} {B g gs : Nat} {P P' : Int} {m : Hd}
theorem DH.more (d : DH w W B g gs P m) (hP : P ≤ P') : DH w W B g gs P' m := { d with rd := d.rd.mono hP }
theorem DH.pick (d : DH w W B g gs P m) (hl : g < w.heap.size) (hr : Rd W' B g P') (hg : W.grownBy W' (some g)) : DH w W' B g gs P' m :=
  ⟨hr, only_trans d.grown hg, d.res.grown hg (by simp; omega), d.high, d.hd.grown hg (by have := d.high; simp; omega), d.small⟩
theorem DH.alloc (d : DH w W B g gs P m) (o : Obj) : DH w (W.alloc o) B g gs P m :=
  ⟨d.rd.alloc o, only_alloc d.grown o, d.res.alloc o, d.high, d.hd.alloc o, d.small⟩
/-- A field of the header is set. -/
theorem DH.put (d : DH w W B g gs P m) (hl : g < w.heap.size) (k : Nat) (u : Value) {t : Hd} (ht : t.small)
    (he : (#[.int .i64 m.sec, .int .i64 m.sym, .int .i64 m.fix, .int .i64 m.nam] : Array Value).setIfInBounds k u = #[.int .i64 t.sec, .int .i64 t.sym, .int .i64 t.fix, .int .i64 t.nam]) :
    DH w (W.setCell ⟨gs, k, none⟩ u) B g gs P t := by
  have hg : W.grownBy (W.setCell ⟨gs, k, none⟩ u) (some gs) := only_put' (g := gs) k u
  have hh := d.high
  have hB := d.rd.1
  have hgr : w.grownBy (W.setCell ⟨gs, k, none⟩ u) (some g) := ⟨hg.os.trans d.grown.os, hg.tape.trans d.grown.tape, hg.output.trans d.grown.output, Nat.le_trans d.grown.size hg.size, fun i hi hne => (hg.block i (Nat.lt_of_lt_of_le hi d.grown.size) (fun e => by injection e with e; omega)).trans (d.grown.block i hi hne)⟩
  refine ⟨d.rd.grown hg (fun j hj => by injection hj with hj; omega), hgr, d.res.away (p := ⟨gs, k, none⟩) (by show _ ≠ gs; omega) u, hh, ?_, ht⟩
  rw [← he]; exact d.hd.put k u
end
/-- What the draw of a header leaves. -/
def DrawnH (w : World) (B g : Nat) (P : Int) (e : Ending) (w' : World) : Prop :=
  ∃ m : Hd, e = .returned m.agg ∧ m.small ∧ Rd w' B g (P + 30) ∧ w.grownBy w' (some g)
set_option maxRecDepth 100000 in
set_option maxHeartbeats 2000000 in
theorem l20Header_any (w : World) (B g : Nat) (P n : Int) (h : Rd w B g P) (hP : P ≤ 100000) (hn : 0 ≤ n) (hn' : n ≤ 4294967296) :
    Calls Try.prog 8 #[.pointer (some ⟨g, 0, none⟩), .int .i64 n] w (DrawnH w B g P) := by
  have hgl := h.lt
  go_enter Try.func8, Try.ntmps8
  go_wp2_with fail
  refine (pick_any _ B g P 9 (h.alloc _) (by omega) (by omega) (by omega)).mono ?_
  rintro e w1 ⟨x1, rfl, x10, x11, hr1, hg1⟩
  have R1 := hidden ((Has.new w 24 #[.int .i64 0, .int .i64 0, .int .i64 0, .int .i64 0]).grown hg1 (by simp; omega))
  have G1 := only_trans (only_alloc (World.grownBy.refl w (some g)) (.cells #[.int .i64 0, .int .i64 0, .int .i64 0, .int .i64 0] 24)) hg1
  clear hg1 h
  go_wp2_with fail
  refine (pick_any w1 B g (P + 1) 13 hr1 (by omega) (by omega) (by omega)).mono ?_
  rintro e w2 ⟨x2, rfl, x20, x21, hr2, hg2⟩
  have R2 := hidden (R1.out.grown hg2 (by simp; omega))
  have G2 := only_trans G1 hg2
  clear hg2 hr1 R1 G1
  go_wp2_with fail
  refine (pick_any w2 B g (P + 1 + 1) 49 hr2 (by omega) (by omega) (by omega)).mono ?_
  rintro e w3 ⟨x3, rfl, x30, x31, hr3, hg3⟩
  have R3 := hidden (R2.out.grown hg3 (by simp; omega))
  have G3 := only_trans G2 hg3
  clear hg3 hr2 R2 G2
  go_wp2_with fail
  refine (pick_any w3 B g (P + 1 + 1 + 1) 256 hr3 (by omega) (by omega) (by omega)).mono ?_
  rintro e w4 ⟨x4, rfl, x40, x41, hr4, hg4⟩
  have R4 := hidden (R3.out.grown hg4 (by simp; omega))
  have G4 := hidden (only_trans G3 hg4)
  have hw4 : IntKind.i64.wrap (1 + x4) = 1 + x4 := IntWalk.i64_in _ (by omega)
  have D0 : Hid (DH w (w4.alloc (.cells #[.int .i64 x1, .int .i64 x2, .int .i64 x3, .int .i64 (1 + x4)] 24)) B g w4.heap.size (P + 4) ⟨x1, x2, x3, 1 + x4⟩) :=
    ⟨(hr4.alloc _).mono (by omega), only_alloc G4.out _, R4.out.alloc _, R4.out.lt, Has.new _ _ _, ⟨by show -1 ≤ x1; omega, by show x1 ≤ 9; omega, x20, by show x2 ≤ 13; omega, by show -1 ≤ x3; omega, by show x3 ≤ 48; omega, by show 0 ≤ 1 + x4; omega, by show 1 + x4 ≤ 401; omega⟩⟩
  obtain ⟨gs, hgs⟩ : ∃ q, w4.heap.size = q := ⟨_, rfl⟩
  rw [hgs] at D0
  obtain ⟨W, hW⟩ : ∃ q, w4.alloc (.cells #[.int .i64 x1, .int .i64 x2, .int .i64 x3, .int .i64 (1 + x4)] 24) = q := ⟨_, rfl⟩
  rw [hW] at D0
  have HGS := hidden hgs
  have HWW := hidden hW
  clear hg4 hr3 R3 G3 hr4 R4 G4 hgs hW
  go_wp2_with fail
  rw [HGS.out, HWW.out]
  refine (odd_any W B g (P + 4) n D0.out.rd (by omega) hn hn').mono ?_
  rintro e w5 ⟨b, rfl, hr5, hg5⟩
  have D1 := hidden (D0.out.pick hgl hr5 hg5)
  clear D0 hr5 hg5
  obtain ⟨m, hm⟩ : ∃ q, (⟨x1, x2, x3, 1 + x4⟩ : Hd) = q := ⟨_, rfl⟩
  rw [hm] at D1
  clear hm
  go_upto_if 18 with fail
  go_cut [] from 6 (fun wx => ∃ m : Hd, Hid (DH w wx B g gs (P + 20) m))
  case first =>
    rcases b with _ | _
    · go_wp2_with fail
      go_meet
      exact ⟨m, D1.out.more (by omega)⟩
    go_wp2_with fail
    refine (pick_any w5 B g (P + 4 + 1) 4 D1.out.rd (by omega) (by omega) (by omega)).mono ?_
    rintro e w6 ⟨x, rfl, xx0, xx1, hr6, hg6⟩
    have D2 := hidden (D1.out.pick hgl hr6 hg6)
    clear D1 hr6 hg6
    by_cases q0 : x = 0
    · have q0' : (x == 0) = true := by simp [q0]
      clear q0
      go_wp2_with fail
      refine (pick_any _ B g (P + 4 + 1 + 1) 2 (D2.out.rd.alloc _) (by omega) (by omega) (by omega)).mono ?_
      rintro e w7 ⟨y, rfl, y0, y1, hr7, hg7⟩
      obtain ⟨i, rfl⟩ := Int.eq_ofNat_of_zero_le y0
      have hl6 := D2.out.rd.lt
      have D3 := hidden ((D2.out.alloc _).pick hgl hr7 hg7)
      obtain ⟨z, hz, z0, z1⟩ := lit_read [-1, 9] (-1) 10 ((Has.new w6 _ _).grown hg7 (by simp; omega)) rfl (by intro u hu; simp at hu; omega) i (by simp; omega)
      have cl := D3.out.hd.cell 0
      have fl := D3.out.hd.free 0
      have k := D3.out.small
      have HF := hidden (D3.out.put hgl 0 (.int .i64 z) (t := { m with sec := z }) ⟨by show -1 ≤ z; omega, by show z ≤ 9; omega, k.sym0, k.sym1, k.fix0, k.fix1, k.nam0, k.nam1⟩ rfl)
      clear D3 D2 hr7 hg7 k
      go_wp2_with fail
      go_meet
      exact ⟨_, HF.out.more (by omega)⟩
    have q0' : (x == 0) = false := by simpa using q0
    by_cases q1 : x = 1
    · have q1' : (x == 1) = true := by simp [q1]
      clear q0 q1
      have cl := D2.out.hd.cell 1
      have fl := D2.out.hd.free 1
      have k := D2.out.small
      have HF := hidden (D2.out.put hgl 1 (.int .i64 (13)) (t := { m with sym := 13 }) ⟨k.sec0, k.sec1, by show (0 : Int) ≤ (13 : Int); omega, by show (13 : Int) ≤ 13; omega, k.fix0, k.fix1, k.nam0, k.nam1⟩ rfl)
      clear D2 k
      go_wp2_with fail
      go_meet
      exact ⟨_, HF.out.more (by omega)⟩
    have q1' : (x == 1) = false := by simpa using q1
    by_cases q2 : x = 2
    · have q2' : (x == 2) = true := by simp [q2]
      clear q0 q1 q2
      have cl := D2.out.hd.cell 2
      have fl := D2.out.hd.free 2
      have k := D2.out.small
      have HF := hidden (D2.out.put hgl 2 (.int .i64 (-1)) (t := { m with fix := -1 }) ⟨k.sec0, k.sec1, k.sym0, k.sym1, by show -1 ≤ (-1 : Int); omega, by show (-1 : Int) ≤ 48; omega, k.nam0, k.nam1⟩ rfl)
      clear D2 k
      go_wp2_with fail
      go_meet
      exact ⟨_, HF.out.more (by omega)⟩
    have q2' : (x == 2) = false := by simpa using q2
    clear q0 q1 q2
    go_wp2_with fail
    refine (pick_any _ B g (P + 4 + 1 + 1) 2 (D2.out.rd.alloc _) (by omega) (by omega) (by omega)).mono ?_
    rintro e w7 ⟨y, rfl, y0, y1, hr7, hg7⟩
    obtain ⟨i, rfl⟩ := Int.eq_ofNat_of_zero_le y0
    have hl6 := D2.out.rd.lt
    have D3 := hidden ((D2.out.alloc _).pick hgl hr7 hg7)
    obtain ⟨z, hz, z0, z1⟩ := lit_read [0, 401] (0) 402 ((Has.new w6 _ _).grown hg7 (by simp; omega)) rfl (by intro u hu; simp at hu; omega) i (by simp; omega)
    have cl := D3.out.hd.cell 3
    have fl := D3.out.hd.free 3
    have k := D3.out.small
    have HF := hidden (D3.out.put hgl 3 (.int .i64 z) (t := { m with nam := z }) ⟨k.sec0, k.sec1, k.sym0, k.sym1, k.fix0, k.fix1, by show 0 ≤ z; omega, by show z ≤ 401; omega⟩ rfl)
    clear D3 D2 hr7 hg7 k
    go_wp2_with fail
    go_meet
    exact ⟨_, HF.out.more (by omega)⟩
  case rest =>
    obtain ⟨m, D⟩ := hcut
    clear D1
    have HS := hidden D.out.hd
    have HR := hidden D.out.res
    have hne : w.heap.size ≠ gs := by have := D.out.high; omega
    have z0 : wc.cell? ⟨gs, 0, none⟩ = some (.int .i64 m.sec) := HS.out.cell 0
    have z1 : wc.cell? ⟨gs, 1, none⟩ = some (.int .i64 m.sym) := HS.out.cell 1
    have z2 : wc.cell? ⟨gs, 2, none⟩ = some (.int .i64 m.fix) := HS.out.cell 2
    have z3 : wc.cell? ⟨gs, 3, none⟩ = some (.int .i64 m.nam) := HS.out.cell 3
    have y0 : wc.cell? ⟨w.heap.size, 0, none⟩ = some (.int .i64 0) := HR.out.cell 0
    have y1 : wc.cell? ⟨w.heap.size, 1, none⟩ = some (.int .i64 0) := HR.out.cell 1
    have y2 : wc.cell? ⟨w.heap.size, 2, none⟩ = some (.int .i64 0) := HR.out.cell 2
    have y3 : wc.cell? ⟨w.heap.size, 3, none⟩ = some (.int .i64 0) := HR.out.cell 3
    have f0 := HR.out.free 0
    have f1 := HR.out.free 1
    have f2 := HR.out.free 2
    have f3 := HR.out.free 3
    go_wp2_with fail
    have HF : Has ((((wc.setCell ⟨w.heap.size, 0, none⟩ (.int .i64 m.sec)).setCell ⟨w.heap.size, 1, none⟩ (.int .i64 m.sym)).setCell ⟨w.heap.size, 2, none⟩ (.int .i64 m.fix)).setCell ⟨w.heap.size, 3, none⟩ (.int .i64 m.nam)) w.heap.size 24 #[.int .i64 m.sec, .int .i64 m.sym, .int .i64 m.fix, .int .i64 m.nam] := (((HR.out.put 0 _).put 1 _).put 2 _).put 3 _
    have HG : wc.grownBy ((((wc.setCell ⟨w.heap.size, 0, none⟩ (.int .i64 m.sec)).setCell ⟨w.heap.size, 1, none⟩ (.int .i64 m.sym)).setCell ⟨w.heap.size, 2, none⟩ (.int .i64 m.fix)).setCell ⟨w.heap.size, 3, none⟩ (.int .i64 m.nam)) (some w.heap.size) := (only_trans (only_trans (only_trans (only_put' (g := w.heap.size) 0 _) (only_put' (g := w.heap.size) 1 _)) (only_put' (g := w.heap.size) 2 _)) (only_put' (g := w.heap.size) 3 _))
    refine bodyPost_ret (results_cell_row rfl _ _ w.heap.size 24 #[.int .i64 m.sec, .int .i64 m.sym, .int .i64 m.fix, .int .i64 m.nam] (0, 0) _ rfl HF Try.underlying24 rfl (by kernel_rfl)) rfl ?_
    obtain ⟨WF, hWF⟩ : ∃ q, ((((wc.setCell ⟨w.heap.size, 0, none⟩ (.int .i64 m.sec)).setCell ⟨w.heap.size, 1, none⟩ (.int .i64 m.sym)).setCell ⟨w.heap.size, 2, none⟩ (.int .i64 m.fix)).setCell ⟨w.heap.size, 3, none⟩ (.int .i64 m.nam)) = q := ⟨_, rfl⟩
    rw [hWF] at HF HG
    rw [hWF]
    clear hWF
    refine ⟨m, rfl, D.out.small, (D.out.rd.grown HG (fun j hj => by injection hj with hj; have := D.out.rd.1; omega)).mono (by omega), ?_⟩
    exact ⟨HG.os.trans D.out.grown.os, HG.tape.trans D.out.grown.tape, HG.output.trans D.out.grown.output, Nat.le_trans D.out.grown.size HG.size, fun i hi hne => (HG.block i (Nat.lt_of_lt_of_le hi D.out.grown.size) (fun e => by injection e with e; omega)).trans (D.out.grown.block i hi hne)⟩

end Go.Proofs.Ytgpnjnpcgmhaaaa

import Derived.Test.YtpfombelhajmlaaGreatDoorRegS
import Derived.Test.YtpfombelhajmlaaGreatDoorRdH
import Derived.Test.YtpfombelhajmlaaGreatDoorLawD4
import Derived.Deep.CutBlock
import Derived.IntWalk
namespace Go.Proofs.YtpfombelhajmlaaGreatDoor
open Go.RowKit
theorem below_both {W W' : World} (h : Below W.heap.size W W') (p : Addr) (v : Value) : Below (W.setCell p v).heap.size (W.setCell p v) (W'.setCell p v) := by
  refine ⟨h.os, h.tape, h.output, by simpa using h.size, fun i hi => ?_⟩
  have hi2 : i < W.heap.size := by simpa using hi
  simp only [World.setCell, Array.getElem?_modify, h.block i hi2]
structure JSN (X : World) (wb : Nat) (wcur : Array Value) (nm : ByteArray) (kd al : Int) (k : Nat) (W : World) (vals : Nat → Value) : Prop where
  words : Has W wb 9 wcur
  low : Below X.heap.size X W
  one : k = 1 → ∃ Y, Below X.heap.size X Y ∧ vals 0 = .pointer (some ⟨Y.heap.size, 0, none⟩) ∧ Below Y.heap.size Y W ∧ Has W Y.heap.size 52 #[.string ⟨#[]⟩, .int .i64 0, .int .i64 0, .slice none 0 0, .int .i64 0, .slice none 0 0]
  two : k = 2 → ∃ Y, Below X.heap.size X Y ∧ vals 0 = .pointer (some ⟨Y.heap.size, 0, none⟩) ∧ RS Y W nm kd al 0 (.slice none 0 0) (.slice none 0 0) [] []
theorem JSN.stir {X : World} {wb : Nat} {wcur : Array Value} {nm : ByteArray} {kd al : Int} {k : Nat} {W W' : World} {vals : Nat → Value} (h : JSN X wb wcur nm kd al k W vals) (hb : Below W.heap.size W W') : JSN X wb wcur nm kd al k W' vals :=
  ⟨h.words.below hb h.words.lt, h.low.trans (hb.mono h.low.size), fun hk => by
    obtain ⟨Y, h1, h2, h3, h4⟩ := h.one hk
    exact ⟨Y, h1, h2, h3.trans (hb.mono h3.size), h4.below hb h4.lt⟩, fun hk => by
    obtain ⟨Y, h1, h2, h3⟩ := h.two hk
    exact ⟨Y, h1, h2, h3.kept (grown_only hb)⟩⟩
structure JFW (w2 : World) (h3 ob sg wb : Nat) (wcur : Array Value) (vs vm : Value) (ss0 : List Sp) (y : Sp) (nf : Nat) (ms : List Sm) (f : Fx) (lo : Nat) (k : Nat) (W : World) (vals : Nat → Value) : Prop where
  high : h3 ≤ W.heap.size
  words : Has W wb 9 wcur
  obj : Has W ob 26 #[vs, vm]
  ro : k ≤ 1 → RO w2 W vs vm (ss0 ++ [y]) ms
  arr : k = 1 → ∃ q, vals 0 = .slice (some ⟨q, 0, none⟩) 1 1 ∧ Has W q 55 #[.int .i64 f.pl, .int .i64 f.kind, .int .i64 f.to, .int .i64 f.add]
  app : k = 2 → ∃ a c cur, vals 1 = .slice a (nf + 1) c ∧ Has W sg 52 cur ∧ cur[ss0.length * 6 + 5]? = some (.slice y.a2 nf y.c2) ∧ RO w2 (W.setCell ⟨sg, ss0.length * 6 + 5, none⟩ (.slice a (nf + 1) c)) vs vm (ss0 ++ [plusF y f a c]) ms ∧ ∀ g, a = some g → lo ≤ g.block
  fin : k = 3 → ∃ a c, RO w2 W vs vm (ss0 ++ [plusF y f a c]) ms ∧ ∀ g, a = some g → lo ≤ g.block
theorem JFW.stir {w2 : World} {h3 ob sg wb : Nat} {wcur : Array Value} {vs vm : Value} {ss0 : List Sp} {y : Sp} {nf : Nat} {ms : List Sm} {f : Fx} {lo k : Nat} {W W' : World} {vals : Nat → Value} (h : JFW w2 h3 ob sg wb wcur vs vm ss0 y nf ms f lo k W vals) (hb : Below W.heap.size W W') : JFW w2 h3 ob sg wb wcur vs vm ss0 y nf ms f lo k W' vals :=
  ⟨Nat.le_trans h.high hb.size, h.words.below hb h.words.lt, h.obj.below hb h.obj.lt, fun hk => (h.ro hk).only hb, fun hk => by
    obtain ⟨q, h1, h2⟩ := h.arr hk
    exact ⟨q, h1, h2.below hb h2.lt⟩, fun hk => by
    obtain ⟨a, c, cur, h1, h2, h4, h5, h6⟩ := h.app hk
    exact ⟨a, c, cur, h1, h2.below hb h2.lt, h4, h5.only (below_both hb _ _), h6⟩, fun hk => by
    obtain ⟨a, c, h1, h2⟩ := h.fin hk
    exact ⟨a, c, h1.only hb, h2⟩⟩
theorem JY.stir {w2 : World} {vs vm : Value} {ss : List Sp} {ms : List Sm} {m : Sm} {k : Nat} {W W' : World} {vals : Nat → Value} (h : JY w2 vs vm ss ms m k W vals) (hb : Below W.heap.size W W') : JY w2 vs vm ss ms m k W' vals := by
  match k, h with
  | 0, h => exact RO.only h hb
  | 1, h =>
    obtain ⟨h1, q, h2, h3⟩ := h
    exact ⟨RO.only h1 hb, q, h2, h3.below hb h3.lt⟩
  | 2, h =>
    obtain ⟨a, c, h1, h2, h3, h4⟩ := h
    exact ⟨a, c, h1, h2.trans (hb.mono h2.size), h3.below hb h3.lt, RO.only h4 (below_both hb _ _)⟩
  | _ + 3, h =>
    obtain ⟨a, c, h1⟩ := h
    exact ⟨a, c, RO.only h1 hb⟩
structure JYW (w2 : World) (h3 wb : Nat) (wcur : Array Value) (vs vm : Value) (ss : List Sp) (ms : List Sm) (m : Sm) (k : Nat) (W : World) (vals : Nat → Value) : Prop where
  j : JY w2 vs vm ss ms m k W vals
  high : h3 ≤ W.heap.size
  words : Has W wb 9 wcur
theorem JYW.stir {w2 : World} {h3 wb : Nat} {wcur : Array Value} {vs vm : Value} {ss : List Sp} {ms : List Sm} {m : Sm} {k : Nat} {W W' : World} {vals : Nat → Value} (h : JYW w2 h3 wb wcur vs vm ss ms m k W vals) (hb : Below W.heap.size W W') : JYW w2 h3 wb wcur vs vm ss ms m k W' vals :=
  ⟨h.j.stir hb, Nat.le_trans h.high hb.size, h.words.below hb h.words.lt⟩
set_option maxRecDepth 100000 in
set_option maxHeartbeats 4000000 in
theorem readDump'_any (w : World) (B : Nat) (a : Option Addr) (n c : Nat) (S : List ByteArray) (hn : n = S.length) (h : Vals w B a (S.map Value.string)) (hB : B ≤ w.heap.size) (hnb : n ≤ 1048576) (hsz : ∀ s ∈ S, s.size ≤ 1048576) :
    Calls Tryz.prog 15 #[.slice a n c] w (ReadD w (S.map numsOf)) := by
  obtain ⟨w2, hw2⟩ : ∃ q, w.alloc (.cells #[.slice none 0 0, .slice none 0 0] 26) = q := ⟨_, rfl⟩
  obtain ⟨rb, hrb⟩ : ∃ q, w.heap.size = q := ⟨_, rfl⟩
  obtain ⟨w3, hw3⟩ : ∃ q, w2.alloc (.cells #[.slice none 0 0, .slice none 0 0] 26) = q := ⟨_, rfl⟩
  obtain ⟨ob, hob⟩ : ∃ q, w2.heap.size = q := ⟨_, rfl⟩
  have hb2 : Below w.heap.size w w2 := by rw [← hw2]; exact (Below.refl _ _).alloc (Nat.le_refl _) _
  have hres : Has w2 rb 26 #[.slice none 0 0, .slice none 0 0] := by rw [← hw2, ← hrb]; exact Has.new _ _ _
  have hst0 : RdSt w2 w3 (.slice none 0 0) (.slice none 0 0) [] [] 0 := ⟨⟨by rw [← hw3]; exact RO.new w2, LastOk.nil _⟩, Nat.le_refl _, Nat.le_refl _, (fun y hy => by cases hy), (fun y hy => by cases hy), (fun y hy => by cases hy)⟩
  have HVX := hidden (fun (W : World) (hW : Below w2.heap.size w2 W) => h.below ((hb2.trans (hW.mono hb2.size)).mono hB))
  have HRX := hidden (fun (W : World) (hW : Below w2.heap.size w2 W) => hres.below hW hres.lt)
  have HBX := hidden (fun (W : World) (hW : Below w2.heap.size w2 W) => hb2.trans (hW.mono hb2.size))
  have HST0 := hidden hst0
  have HN := hidden hn
  have HSZ := hidden hsz
  have HOB := hidden hob
  have hrlt : rb < ob := by rw [← hob]; exact hres.lt
  have hwrb : w.heap.size ≤ rb := by omega
  have HWB : Hid (w.heap.size ≤ w2.heap.size) := hb2.size
  have HW2 := hidden hw2
  have HW3 := hidden hw3
  have HRB := hidden hrb
  clear hst0 h hn hsz hres hb2 hw2 hw3 hrb hob
  go_enter Tryz.func15, Tryz.ntmps15
  go_upto_region 1 with fail
  try rw [HW2.out]
  try rw [HRB.out]
  go_upto_region 2 with fail
  try rw [HOB.out]
  try rw [HW3.out]
  go_wp2_with fail
  clear HW2 HW3 HRB
  go_loopw [5] (fun i wr => ∃ (k : Nat) (vs vm : Value) (ss : List Sp) (ms : List Sm), i = .int .i64 k ∧ k ≤ n ∧ Hid (parseD ([], []) ((S.take k).map numsOf) = some (ss.map Sp.s, ms)) ∧ Hid (RdSt w2 wr vs vm ss ms k) ∧ Hid (∀ s ∈ ss.map Sp.s, ∀ x ∈ s.bytes, 0 ≤ x ∧ x < 256)) (fun i _ => n - (intOf i).toNat)
  case atStart => exact ⟨0, _, _, [], [], rfl, Nat.zero_le _, (by show _ = _; rfl), HST0.out, fun s hs => by cases hs⟩
  case round =>
    obtain ⟨k, vs, vm, ss, ms, rfl, hk, hp, hst, hby⟩ := hrel
    clear HST0
    have HBR := hidden hst.out.rol.ro.below
    by_cases hlt : k < n
    · have hi : (k : Int) < (n : Int) := by omega
      have hkl : k < S.length := by rw [← HN.out]; exact hlt
      obtain ⟨s, hs⟩ : ∃ s, S[k]? = some s := ⟨_, List.getElem?_eq_getElem hkl⟩
      obtain ⟨b, o, rfl, hc⟩ := vals_row (HVX.out wr HBR.out) (by omega)
      have c0 : wr.cell? ⟨b, o + k, none⟩ = some (.string s) := by rw [hc k hkl, List.getD_eq_getElem?_getD, hs]; rfl
      have hss := HSZ.out s (List.mem_of_getElem? hs)
      obtain ⟨ws, hws⟩ : ∃ q, wordsT (numsOf s) = q := ⟨_, rfl⟩
      have HWD := hidden (l8Words_any wr s (by omega))
      rw [hws] at HWD
      have hw0 : 0 < ws.length := by rw [← hws]; exact wordsT_length _
      have hwz : ∀ i, (ws.getD i ⟨#[]⟩).size ≤ 1048576 := fun i => by rw [← hws]; exact Nat.le_trans (wordsT_size s i) hss
      have HSTEP : Hid (parseD ([], []) ((S.take (k + 1)).map numsOf) = stepW (ss.map Sp.s, ms) ws) := by show _ = _; rw [← hws]; exact parseD_snoc hp.out hs
      have HFAIL : Hid (stepW (ss.map Sp.s, ms) ws = none → rdD (S.map numsOf) = none) := by rw [← hws]; exact parseD_fail hp.out hs
      obtain ⟨nw, hnw⟩ : ∃ q, ws.length = q := ⟨_, rfl⟩
      rw [hnw] at HWD hw0
      have HNW := hidden hnw
      obtain ⟨x0, hx0⟩ : ∃ q, ws.getD 0 ⟨#[]⟩ = q := ⟨_, rfl⟩
      have HX0 := hidden hx0
      have hz0 : x0.size ≤ 1048576 := by rw [← hx0]; exact hwz 0
      obtain ⟨x1, hx1⟩ : ∃ q, ws.getD 1 ⟨#[]⟩ = q := ⟨_, rfl⟩
      have HX1 := hidden hx1
      have hz1 : x1.size ≤ 1048576 := by rw [← hx1]; exact hwz 1
      obtain ⟨x2, hx2⟩ : ∃ q, ws.getD 2 ⟨#[]⟩ = q := ⟨_, rfl⟩
      have HX2 := hidden hx2
      have hz2 : x2.size ≤ 1048576 := by rw [← hx2]; exact hwz 2
      obtain ⟨x3, hx3⟩ : ∃ q, ws.getD 3 ⟨#[]⟩ = q := ⟨_, rfl⟩
      have HX3 := hidden hx3
      have hz3 : x3.size ≤ 1048576 := by rw [← hx3]; exact hwz 3
      obtain ⟨x4, hx4⟩ : ∃ q, ws.getD 4 ⟨#[]⟩ = q := ⟨_, rfl⟩
      have HX4 := hidden hx4
      have hz4 : x4.size ≤ 1048576 := by rw [← hx4]; exact hwz 4
      obtain ⟨x5, hx5⟩ : ∃ q, ws.getD 5 ⟨#[]⟩ = q := ⟨_, rfl⟩
      have HX5 := hidden hx5
      have hz5 : x5.size ≤ 1048576 := by rw [← hx5]; exact hwz 5
      obtain ⟨n1, hn1⟩ : ∃ q, wNum ws 1 = q := ⟨_, rfl⟩
      have HM1 := hidden hn1
      have HI1 : Hid (I64 n1) := by show I64 _; rw [← hn1]; exact rdNum_i64 _
      have HY1 : Hid (∀ W : World, Calls Tryz.prog 42 #[.string x1] W fun e w' => e = .returned (.int .i64 n1) ∧ Below W.heap.size W w') := fun W => by
        have := l8Read_any W x1 (by omega)
        rwa [show rdNum (numsOf x1) = n1 by rw [← hx1, ← hn1]; rfl] at this
      obtain ⟨n2, hn2⟩ : ∃ q, wNum ws 2 = q := ⟨_, rfl⟩
      have HM2 := hidden hn2
      have HI2 : Hid (I64 n2) := by show I64 _; rw [← hn2]; exact rdNum_i64 _
      have HY2 : Hid (∀ W : World, Calls Tryz.prog 42 #[.string x2] W fun e w' => e = .returned (.int .i64 n2) ∧ Below W.heap.size W w') := fun W => by
        have := l8Read_any W x2 (by omega)
        rwa [show rdNum (numsOf x2) = n2 by rw [← hx2, ← hn2]; rfl] at this
      obtain ⟨n3, hn3⟩ : ∃ q, wNum ws 3 = q := ⟨_, rfl⟩
      have HM3 := hidden hn3
      have HI3 : Hid (I64 n3) := by show I64 _; rw [← hn3]; exact rdNum_i64 _
      have HY3 : Hid (∀ W : World, Calls Tryz.prog 42 #[.string x3] W fun e w' => e = .returned (.int .i64 n3) ∧ Below W.heap.size W w') := fun W => by
        have := l8Read_any W x3 (by omega)
        rwa [show rdNum (numsOf x3) = n3 by rw [← hx3, ← hn3]; rfl] at this
      obtain ⟨n4, hn4⟩ : ∃ q, wNum ws 4 = q := ⟨_, rfl⟩
      have HM4 := hidden hn4
      have HI4 : Hid (I64 n4) := by show I64 _; rw [← hn4]; exact rdNum_i64 _
      have HY4 : Hid (∀ W : World, Calls Tryz.prog 42 #[.string x4] W fun e w' => e = .returned (.int .i64 n4) ∧ Below W.heap.size W w') := fun W => by
        have := l8Read_any W x4 (by omega)
        rwa [show rdNum (numsOf x4) = n4 by rw [← hx4, ← hn4]; rfl] at this
      have HHX : Hid (∀ W : World, Calls Tryz.prog 43 #[.string x5] W (HexS W (numsOf x5))) := fun W => readHex'_any W x5 (by omega)
      clear hc hs hkl hws hn1 hn2 hn3 hn4 hwz hp
      go_wp2_with fail
      refine HWD.out.mono ?_
      rintro e w5 ⟨v, rfl, hown, hb5⟩
      clear HWD c0
      rcases hown.2 with ⟨-, h0⟩ | ⟨wb, cw, wcur, rfl, hwb, hwh, hwn, hwm, hwsz, hwt⟩
      · omega
      have hwc : ∀ i, i < nw → wcur[i]? = some (.string (ws.getD i ⟨#[]⟩)) := fun i hi => by
        rw [← Array.getElem?_toList]
        have h5 : (ws.map Value.string)[i]? = some (.string (ws.getD i ⟨#[]⟩)) := by rw [List.getElem?_map, List.getD_eq_getElem?_getD, List.getElem?_eq_getElem (by omega)]; rfl
        rw [← hwt, List.getElem?_take, if_pos (by omega)] at h5
        exact h5
      have hwh' : Has w5 wb 9 wcur := hwh
      have HWH := hidden hwh'
      have HWC := hidden hwc
      have HST5 := hidden (hst.out.only hb5)
      have HB5 := hidden (HBR.out.trans (hb5.mono HBR.out.size))
      have HDF : Hid (Has ((w5.setCell ⟨rb, 0, none⟩ (.slice none 0 0)).setCell ⟨rb, 1, none⟩ (.slice none 0 0)) rb 26 #[.slice none 0 0, .slice none 0 0]) := ((HRX.out w5 HB5.out).put 0 _).put 1 _
      have HDB : Hid (Below w.heap.size w ((w5.setCell ⟨rb, 0, none⟩ (.slice none 0 0)).setCell ⟨rb, 1, none⟩ (.slice none 0 0))) := ((HBX.out w5 HB5.out).setCell (p := ⟨rb, 0, none⟩) hwrb _).setCell (p := ⟨rb, 1, none⟩) hwrb _
      have q0 : w5.cell? ⟨wb, 0, none⟩ = some (.string x0) := by rw [← hx0, ← hwc 0 hw0]; exact hwh'.cell 0
      have hwbl : wb < w5.heap.size := hwh'.lt
      clear hown hwc hwh hwh' hwt hwsz hst hx0 hx1 hx2 hx3 hx4 hx5 hnw hwb hwn hwm
      by_cases e1 : x0 = wSec
      · subst e1
        by_cases h5 : nw < 5
        · skip
          have HF : Hid (rdD (S.map numsOf) = none) := HFAIL.out (by unfold stepW; dsimp only; rw [HX0.out, HNW.out, if_neg (fun h => by have := h.2.1; omega), if_neg (fun h => absurd h.1 (by decide)), if_neg (fun h => absurd h.1 (by decide))])
          have hres5 := HRX.out w5 HB5.out
          have r0 : w5.cell? ⟨rb, 0, none⟩ = some (.slice none 0 0) := hres5.cell 0
          have r1 : w5.cell? ⟨rb, 1, none⟩ = some (.slice none 0 0) := hres5.cell 1
          have f0 := hres5.free 0
          have f1 := hres5.free 1
          clear hres5
          go_wp2_with fail
          refine (l1In_low _ _ _ (by omega) _).mono ?_
          rintro e _ ⟨rfl, rfl⟩
          go_wp21
          refine bodyPost_ret (results_cell_row3 rfl _ _ rb 26 #[.slice none 0 0, .slice none 0 0] (0, 0) _ rfl HDF.out Tryz.underlying26 rfl (by kernel_rfl)) rfl ?_
          exact ⟨HDB.out, .inl ⟨HF.out, rfl⟩⟩
        by_cases h6 : 6 < nw
        · skip
          have HF : Hid (rdD (S.map numsOf) = none) := HFAIL.out (by unfold stepW; dsimp only; rw [HX0.out, HNW.out, if_neg (fun h => by have := h.2.2; omega), if_neg (fun h => absurd h.1 (by decide)), if_neg (fun h => absurd h.1 (by decide))])
          have hres5 := HRX.out w5 HB5.out
          have r0 : w5.cell? ⟨rb, 0, none⟩ = some (.slice none 0 0) := hres5.cell 0
          have r1 : w5.cell? ⟨rb, 1, none⟩ = some (.slice none 0 0) := hres5.cell 1
          have f0 := hres5.free 0
          have f1 := hres5.free 1
          clear hres5
          go_wp2_with fail
          refine (l1In_high _ _ _ (by omega) _).mono ?_
          rintro e _ ⟨rfl, rfl⟩
          go_wp21
          refine bodyPost_ret (results_cell_row3 rfl _ _ rb 26 #[.slice none 0 0, .slice none 0 0] (0, 0) _ rfl HDF.out Tryz.underlying26 rfl (by kernel_rfl)) rfl ?_
          exact ⟨HDB.out, .inl ⟨HF.out, rfl⟩⟩
        have HSX : Hid (stepW (ss.map Sp.s, ms) ws = some (ss.map Sp.s ++ [⟨x1, n2, n3, if nw = 6 then (rhx (numsOf x5)).1 else [], if n2 = 3 then n4 else 0, []⟩], ms)) := by
          show _ = _
          unfold stepW
          dsimp only
          rw [HX0.out, HNW.out, if_pos ⟨rfl, by omega, by omega⟩, HX1.out, HM2.out, HM3.out, HM4.out, HX5.out]
        have i1 : (1 : Int) < (nw : Int) := by omega
        have i2 : (2 : Int) < (nw : Int) := by omega
        have i3 : (3 : Int) < (nw : Int) := by omega
        have i4 : (4 : Int) < (nw : Int) := by omega
        have HQ1 : Hid (∀ W : World, Has W wb 9 wcur → W.cell? ⟨wb, 1, none⟩ = some (.string x1)) := fun W hW => by rw [hW.cell, HWC.out 1 (by omega), HX1.out]
        have HQ2 : Hid (∀ W : World, Has W wb 9 wcur → W.cell? ⟨wb, 2, none⟩ = some (.string x2)) := fun W hW => by rw [hW.cell, HWC.out 2 (by omega), HX2.out]
        have HQ3 : Hid (∀ W : World, Has W wb 9 wcur → W.cell? ⟨wb, 3, none⟩ = some (.string x3)) := fun W hW => by rw [hW.cell, HWC.out 3 (by omega), HX3.out]
        have HQ4 : Hid (∀ W : World, Has W wb 9 wcur → W.cell? ⟨wb, 4, none⟩ = some (.string x4)) := fun W hW => by rw [hW.cell, HWC.out 4 (by omega), HX4.out]
        have hJ0 : Hid (JSN w5 wb wcur x1 n2 n3 0 w5.drew fun _ => undef) := ⟨HWH.out, ⟨rfl, rfl, rfl, Nat.le_refl _, fun _ _ => rfl⟩, fun h => absurd h (by decide), fun h => absurd h (by decide)⟩
        clear q0
        have q0 : w5.cell? ⟨wb, 0, none⟩ = some (.string wSec) := by rw [HWH.out.cell, HWC.out 0 hw0, HX0.out]
        go_wp2_with fail
        refine (l1In_yes _ _ _ (by omega) (by omega) _).mono ?_
        rintro e _ ⟨rfl, rfl⟩
        go_upto_region 8 with fail
        refine wp_region_stir (m := 2) (js := [.quiet (.slice (some ⟨wb, 0, none⟩) nw cw) 2, .quiet (.pointer (some ⟨wb, 1, none⟩)) 2, .quiet (.string x1) 2, .quiet (.slice (some ⟨wb, 0, none⟩) nw cw) 2, .quiet (.pointer (some ⟨wb, 2, none⟩)) 2, .quiet (.string x2) 2, .quiet (.int .i64 n2) 2, .quiet (.slice (some ⟨wb, 0, none⟩) nw cw) 2, .quiet (.pointer (some ⟨wb, 3, none⟩)) 2, .quiet (.string x3) 2, .quiet (.int .i64 n3) 2, .quiet (.agg #[.string x1, .int .i64 n2, .int .i64 n3, .slice none 0 0, .int .i64 0, .slice none 0 0]) 2, .chain 0, .chain 1]) (by kernel_rfl) (JSN w5 wb wcur x1 n2 n3) (by kernel_rfl) (by kernel_rfl) ⟨_, hJ0.out⟩ (fun vals => ?_) ?_
        · show SeqS _ _ _ _ _ _ _
          refine ⟨fun kk hkk W hW => ?_, ?_⟩
          · unfold Oper.wp
            simp [go_sem]
            try first | exact ⟨_, rfl, rfl⟩ | exact ⟨_, rfl, rfl, .inl rfl⟩ | exact .inl rfl
          simp only [Act.put, List.setIfInBounds_toArray, List.set_cons_succ, List.set_cons_zero]
          refine ⟨fun kk hkk W hW => ?_, ?_⟩
          · unfold Oper.wp
            simp [go_sem, i1]
            try first | exact ⟨_, rfl, rfl⟩ | exact ⟨_, rfl, rfl, .inl rfl⟩ | exact .inl rfl
          simp only [Act.put, List.setIfInBounds_toArray, List.set_cons_succ, List.set_cons_zero]
          refine ⟨fun kk hkk W hW => ?_, ?_⟩
          · have q : W.cell? ⟨wb, 1, none⟩ = some (.string x1) := HQ1.out W hW.words
            unfold Oper.wp
            simp [go_sem, q]
            try first | exact ⟨_, rfl, rfl⟩ | exact ⟨_, rfl, rfl, .inl rfl⟩ | exact .inl rfl
          simp only [Act.put, List.setIfInBounds_toArray, List.set_cons_succ, List.set_cons_zero]
          refine ⟨fun kk hkk W hW => ?_, ?_⟩
          · unfold Oper.wp
            simp [go_sem]
            try first | exact ⟨_, rfl, rfl⟩ | exact ⟨_, rfl, rfl, .inl rfl⟩ | exact .inl rfl
          simp only [Act.put, List.setIfInBounds_toArray, List.set_cons_succ, List.set_cons_zero]
          refine ⟨fun kk hkk W hW => ?_, ?_⟩
          · unfold Oper.wp
            simp [go_sem, i2]
            try first | exact ⟨_, rfl, rfl⟩ | exact ⟨_, rfl, rfl, .inl rfl⟩ | exact .inl rfl
          simp only [Act.put, List.setIfInBounds_toArray, List.set_cons_succ, List.set_cons_zero]
          refine ⟨fun kk hkk W hW => ?_, ?_⟩
          · have q : W.cell? ⟨wb, 2, none⟩ = some (.string x2) := HQ2.out W hW.words
            unfold Oper.wp
            simp [go_sem, q]
            try first | exact ⟨_, rfl, rfl⟩ | exact ⟨_, rfl, rfl, .inl rfl⟩ | exact .inl rfl
          simp only [Act.put, List.setIfInBounds_toArray, List.set_cons_succ, List.set_cons_zero]
          refine ⟨fun kk hkk W hW => ?_, ?_⟩
          · unfold Oper.wp
            simp [go_sem]
            refine (HY2.out W).mono ?_
            rintro e W9 ⟨rfl, hb9⟩
            have hs9 := hW.stir hb9
            first | exact .inr hs9 | exact ⟨rfl, .inr hs9⟩ | exact ⟨rfl, rfl, .inr hs9⟩ | exact ⟨_, rfl, rfl, .inr hs9⟩
          simp only [Act.put, List.setIfInBounds_toArray, List.set_cons_succ, List.set_cons_zero]
          refine ⟨fun kk hkk W hW => ?_, ?_⟩
          · unfold Oper.wp
            simp [go_sem]
            try first | exact ⟨_, rfl, rfl⟩ | exact ⟨_, rfl, rfl, .inl rfl⟩ | exact .inl rfl
          simp only [Act.put, List.setIfInBounds_toArray, List.set_cons_succ, List.set_cons_zero]
          refine ⟨fun kk hkk W hW => ?_, ?_⟩
          · unfold Oper.wp
            simp [go_sem, i3]
            try first | exact ⟨_, rfl, rfl⟩ | exact ⟨_, rfl, rfl, .inl rfl⟩ | exact .inl rfl
          simp only [Act.put, List.setIfInBounds_toArray, List.set_cons_succ, List.set_cons_zero]
          refine ⟨fun kk hkk W hW => ?_, ?_⟩
          · have q : W.cell? ⟨wb, 3, none⟩ = some (.string x3) := HQ3.out W hW.words
            unfold Oper.wp
            simp [go_sem, q]
            try first | exact ⟨_, rfl, rfl⟩ | exact ⟨_, rfl, rfl, .inl rfl⟩ | exact .inl rfl
          simp only [Act.put, List.setIfInBounds_toArray, List.set_cons_succ, List.set_cons_zero]
          refine ⟨fun kk hkk W hW => ?_, ?_⟩
          · unfold Oper.wp
            simp [go_sem]
            refine (HY3.out W).mono ?_
            rintro e W9 ⟨rfl, hb9⟩
            have hs9 := hW.stir hb9
            first | exact .inr hs9 | exact ⟨rfl, .inr hs9⟩ | exact ⟨rfl, rfl, .inr hs9⟩ | exact ⟨_, rfl, rfl, .inr hs9⟩
          simp only [Act.put, List.setIfInBounds_toArray, List.set_cons_succ, List.set_cons_zero]
          refine ⟨fun kk hkk W hW => ?_, ?_⟩
          · unfold Oper.wp
            simp [go_sem]
            try first | exact ⟨_, rfl, rfl⟩ | exact ⟨_, rfl, rfl, .inl rfl⟩ | exact .inl rfl
          simp only [Act.put, List.setIfInBounds_toArray, List.set_cons_succ, List.set_cons_zero]
          refine ⟨fun W hW => ?_, ?_⟩
          · have hN : JSN w5 wb wcur x1 n2 n3 1 (W.alloc (.cells #[.string ⟨#[]⟩, .int .i64 0, .int .i64 0, .slice none 0 0, .int .i64 0, .slice none 0 0] 52)) (upd vals 0 (.pointer (some ⟨W.heap.size, 0, none⟩))) :=
              ⟨hW.words.below ((Below.refl _ _).alloc (Nat.le_refl _) _) hW.words.lt, hW.low.alloc hW.low.size _, fun _ => ⟨W, hW.low, rfl, (Below.refl _ _).alloc (Nat.le_refl _) _, Has.new _ _ _⟩, fun h => absurd h (by decide)⟩
            unfold Oper.wp
            simp [go_sem]
            first | exact hN | exact ⟨_, rfl, hN⟩
          simp only [Act.put, List.setIfInBounds_toArray, List.set_cons_succ, List.set_cons_zero]
          refine ⟨fun W hW => ?_, trivial⟩
          obtain ⟨Y, hYl, hv, hbz, hz⟩ := hW.one rfl
          have hwz := hW.words
          have hlow := hW.low
          obtain ⟨sb, hsb⟩ : ∃ q, Y.heap.size = q := ⟨_, rfl⟩
          rw [hsb] at hv hz
          rw [hv]
          have z0 := hz.cell 0
          have z1 := hz.cell 1
          have z2 := hz.cell 2
          have z3 := hz.cell 3
          have z4 := hz.cell 4
          have z5 := hz.cell 5
          have g0 := hz.free 0
          have g1 := hz.free 1
          have g2 := hz.free 2
          have g3 := hz.free 3
          have g4 := hz.free 4
          have g5 := hz.free 5
          have hne : sb ≠ wb := hz.differ hwz (by decide)
          obtain ⟨W9, hW9⟩ : ∃ q, (((((W.setCell ⟨sb, 0, none⟩ (.string x1)).setCell ⟨sb, 1, none⟩ (.int .i64 n2)).setCell ⟨sb, 2, none⟩ (.int .i64 n3)).setCell ⟨sb, 3, none⟩ (.slice none 0 0)).setCell ⟨sb, 4, none⟩ (.int .i64 0)).setCell ⟨sb, 5, none⟩ (.slice none 0 0) = q := ⟨_, rfl⟩
          have hgr : W.grownBy W9 (some sb) := by rw [← hW9]; exact only_trans (only_trans (only_trans (only_trans (only_trans (only_put' 0 _) (only_put' 1 _)) (only_put' 2 _)) (only_put' 3 _)) (only_put' 4 _)) (only_put' 5 _)
          have hz9 : Has W9 sb 52 #[.string x1, .int .i64 n2, .int .i64 n3, .slice none 0 0, .int .i64 0, .slice none 0 0] := by rw [← hW9]; exact (((((hz.put 0 _).put 1 _).put 2 _).put 3 _).put 4 _).put 5 _
          have hN : ∀ u, JSN w5 wb wcur x1 n2 n3 2 W9 (upd vals 1 u) := fun u => ⟨hwz.grown hgr (by intro e; injection e with e; exact hne e.symm), hlow.grown hgr hlow.size (by intro q hq; injection hq with hq; have := hYl.size; omega), fun h => absurd h (by decide), fun _ => ⟨Y, hYl, by rw [hsb]; exact hv, hbz.grown hgr hbz.size (by intro q hq; injection hq with hq; omega), by rw [hsb]; exact hz9, World.ownsRow_nil _ _ _ _, World.ownsRow_nil _ _ _ _⟩⟩
          clear hz hbz hwz hgr hz9 hW hv hlow hYl
          unfold Oper.wp
          simp [go_sem, z0, z1, z2, z3, z4, z5, g0, g1, g2, g3, g4, g5]
          try rw [hW9]
          first | exact hN _ | exact ⟨undef, hN _⟩ | exact ⟨_, rfl, hN _⟩
        · intro W vals hJ
          obtain ⟨X, hXl, hv, hrs⟩ := hJ.two rfl
          have HRS := hidden hrs
          obtain ⟨sb, hsb⟩ : ∃ q, X.heap.size = q := ⟨_, rfl⟩
          rw [hsb] at hv
          have HSB := hidden hsb
          have HSTX := hidden (HST5.out.only hXl)
          have HWW := hidden hJ.words
          simp only [putAll, List.map_cons, List.map_nil, Job.val, Act.put, List.setIfInBounds_toArray, List.set_cons_succ, List.set_cons_zero]
          rw [hv]
          clear hJ hJ0 hv q0 i1 i2 i3 hrs hXl
          have p1 : W.cell? ⟨sb, 1, none⟩ = some (.int .i64 n2) := by rw [← HSB.out]; exact HRS.out.sec.cell 1
          by_cases hk3 : n2 = 3
          · have hk3' : (n2 == 3) = true := by simp [hk3]
            rw [if_pos hk3] at HSX
            have x4c : W.cell? ⟨wb, 4, none⟩ = some (.string x4) := HQ4.out W HWW.out
            clear hk3
            go_wp2_with fail
            refine (HY4.out W).mono ?_
            rintro e WS ⟨rfl, hbS⟩
            have HRS1 := hidden (HRS.out.kept (grown_only hbS))
            have HWS := hidden (HWW.out.below hbS HWW.out.lt)
            have p4 : WS.cell? ⟨sb, 4, none⟩ = some (.int .i64 0) := by rw [← HSB.out]; exact HRS1.out.sec.cell 4
            have e4 : WS.frozen? ⟨sb, 4, none⟩ = false := by rw [← HSB.out]; exact HRS1.out.sec.free 4
            clear hbS
            go_upto_region 11 with fail
            have hne : X.heap.size ≠ wb := HRS1.out.sec.differ HWS.out (by decide)
            have HWV : Hid (Has (WS.setCell ⟨sb, 4, none⟩ (.int .i64 n4)) wb 9 wcur) := by
              rw [← HSB.out]
              exact HWS.out.grown (only_put' 4 _) (by intro e; injection e with e; exact hne e.symm)
            have HRS2 := hidden (HRS1.out.size n4)
            rw [HSB.out] at HRS2
            obtain ⟨W1, hW1⟩ : ∃ q, WS.setCell ⟨sb, 4, none⟩ (.int .i64 n4) = q := ⟨_, rfl⟩
            rw [hW1] at HWV HRS2
            try rw [hW1]
            clear hW1 x4c p4 e4 p1 hne
            by_cases e6 : nw = 6
            · subst e6
              rw [if_pos rfl] at HSX
              have x5c : W1.cell? ⟨wb, 5, none⟩ = some (.string x5) := by rw [HWV.out.cell, HWC.out 5 (by omega), HX5.out]
              go_wp2_with fail
              refine (HHX.out W1).mono ?_
              rintro e WH ⟨v5, rfl, hrow, hbh⟩
              have hlw := rhx_byte (numsOf x5)
              have hls := rhx_short (numsOf x5)
              obtain ⟨L5, hL5⟩ : ∃ q, (rhx (numsOf x5)).1 = q := ⟨_, rfl⟩
              obtain ⟨b5, hb5'⟩ : ∃ q, (rhx (numsOf x5)).2 = q := ⟨_, rfl⟩
              rw [hL5] at hrow HSX hlw hls
              try rw [hb5']
              rw [numsOf_length] at hls
              obtain ⟨av, cv, rfl⟩ := own_shape hrow
              clear HHX hL5 hb5'
              have hrowX : WH.ownsRow X.heap.size 5 1 (.slice av L5.length cv) L5.length (L5.map (Value.int .u8)) := row_lower hrow HRS2.out.below.size
              have hrsH := HRS2.out.kept (grown_only hbh)
              have p3 : WH.cell? ⟨sb, 3, none⟩ = some (.slice none 0 0) := by rw [← HSB.out]; exact hrsH.sec.cell 3
              have e3 : WH.frozen? ⟨sb, 3, none⟩ = false := by rw [← HSB.out]; exact hrsH.sec.free 3
              have HRS5 := hidden (HRS2.out.bytes (grown_only hbh) hrowX)
              rw [HSB.out] at HRS5
              clear hrow hrowX hrsH hbh x5c
              go_upto_region 14 with fail
              obtain ⟨W5, hW5⟩ : ∃ q, WH.setCell ⟨sb, 3, none⟩ (.slice av L5.length cv) = q := ⟨_, rfl⟩
              rw [hW5] at HRS5
              try rw [hW5]
              clear hW5 p3 e3
              have hwf : Hid (∀ x ∈ L5, (Lit.int .u8 x).wf = true) := fun x hx => wf_u8.mpr (hlw x hx)
              have hbl : (L5).length ≤ 1048576 := by omega
              obtain ⟨sa, sc, hvs⟩ := own_shape HSTX.out.rol.ro.secs.row
              obtain ⟨i0, hi0, hz0, hz1, hz2⟩ := info_parts Tryz.info_section
              subst hvs
              have hssl : ss.length ≤ 2000000 := by have := HSTX.out.ns; omega
              have hro := HSTX.out.rol.ro
              have hro2 := hro.only HRS5.out.below
              have o0 : W5.cell? ⟨ob, 0, none⟩ = some (.slice sa ss.length sc) := by rw [← HOB.out]; exact hro2.obj.cell 0
              have p0 : W5.cell? ⟨sb, 0, none⟩ = some (.string x1) := by rw [← HSB.out]; exact HRS5.out.sec.cell 0
              have p1 : W5.cell? ⟨sb, 1, none⟩ = some (.int .i64 n2) := by rw [← HSB.out]; exact HRS5.out.sec.cell 1
              have p2 : W5.cell? ⟨sb, 2, none⟩ = some (.int .i64 n3) := by rw [← HSB.out]; exact HRS5.out.sec.cell 2
              have p3 : W5.cell? ⟨sb, 3, none⟩ = some (.slice av L5.length cv) := by rw [← HSB.out]; exact HRS5.out.sec.cell 3
              have p4 : W5.cell? ⟨sb, 4, none⟩ = some (.int .i64 n4) := by rw [← HSB.out]; exact HRS5.out.sec.cell 4
              have p5 : W5.cell? ⟨sb, 5, none⟩ = some (.slice none 0 0) := by rw [← HSB.out]; exact HRS5.out.sec.cell 5
              have HROA := hidden (hro2.alloc (.cells #[.string x1, .int .i64 n2, .int .i64 n3, .slice av L5.length cv, .int .i64 n4, .slice none 0 0] 52))
              have HNEW : Hid (Has (W5.alloc (.cells #[.string x1, .int .i64 n2, .int .i64 n3, .slice av L5.length cv, .int .i64 n4, .slice none 0 0] 52)) W5.heap.size 52 #[.string x1, .int .i64 n2, .int .i64 n3, .slice av L5.length cv, .int .i64 n4, .slice none 0 0]) := Has.new _ _ _
              have hbase : w2.heap.size + 1 ≤ (W5.alloc (.cells #[.string x1, .int .i64 n2, .int .i64 n3, .slice av L5.length cv, .int .i64 n4, .slice none 0 0] 52)).heap.size := HROA.out.obj.lt
              have HFITS : Hid (Sx.fits ⟨x1, n2, n3, L5, n4, []⟩) := ⟨by show x1.size ≤ maxLen; unfold maxLen; omega, HI2.out, HI3.out, HI4.out, by show (L5).length ≤ _; omega, Nat.zero_le _, fun f hf => by cases hf⟩
              have HRO := hidden hro
              have hXW : Hid (X.heap.size ≤ W5.heap.size) := HRS5.out.below.size
              clear hro hro2
              go_wp2_with (at_builtin; refine wpList_append_own _ rfl _ _ 23 rfl (w2.heap.size + 1) 52 i0 (.agg #[.string ⟨#[]⟩, .int .i64 0, .int .i64 0, .slice none 0 0, .int .i64 0, .slice none 0 0]) 6 88 Tryz.underlying23 hi0 hz0 hz1 hz2 rfl (by decide) _ _ _ rfl HROA.out.secs.row ⟨W5.heap.size, 0, none⟩ 1 1 [.string x1, .int .i64 n2, .int .i64 n3, .slice av L5.length cv, .int .i64 n4, .slice none 0 0] rfl rfl (fun t u ht => by rw [addr_row, HNEW.out.cell t]; simpa using ht) (by intro u hu; simp at hu; rcases hu with rfl | rfl | rfl | rfl | rfl | rfl <;> rfl) (by unfold maxLen; omega) (by omega) hbase ?_)
              intro v' w' hown hgrow _
              obtain ⟨b2, d2, rfl⟩ := own_shape hown
              obtain ⟨q1, q2⟩ := RO.app (wb := X) (fs := []) (a2 := none) (c2 := 0) (a1 := av) (c1 := cv) (bs := L5) HRO.out (HRS5.out.alloc _) hwf.out hgrow hown
              have hle6 : X.heap.size ≤ (w'.setCell ⟨w2.heap.size, 0, none⟩ (.slice b2 (ss.length + 1) d2)).heap.size := by
                have h1 := hXW.out
                have h2 := hgrow.size
                simp at h2 ⊢
                omega
              have HST6 := hidden (RdSt.addS (y := ⟨⟨x1, n2, n3, L5, n4, []⟩, av, cv, none, 0⟩) HSTX.out HFITS.out rfl rfl hle6 q2)
              rw [HOB.out] at q1 q2 HST6
              have ck : w'.cell? ⟨ob, 0, none⟩ = some (.slice sa ss.length sc) := q1.cell 0
              have fk := q1.free 0
              have HP : Hid (parseD ([], []) ((S.take (k + 1)).map numsOf) = some ((ss ++ [(⟨⟨x1, n2, n3, L5, n4, []⟩, av, cv, none, 0⟩ : Sp)]).map Sp.s, ms)) := by
                show _ = _
                rw [HSTEP.out, HSX.out, List.map_append]
                rfl
              have HBY : Hid (∀ s ∈ (ss ++ [(⟨⟨x1, n2, n3, L5, n4, []⟩, av, cv, none, 0⟩ : Sp)]).map Sp.s, ∀ x ∈ s.bytes, 0 ≤ x ∧ x < 256) := fun s hs => by
                rw [List.map_append] at hs
                rcases List.mem_append.1 hs with h1 | h1
                · exact hby.out s h1
                · rw [List.mem_singleton.1 h1]
                  exact fun x hx => wf_u8.mp (hwf.out x hx)
              clear hown hgrow hle6 q1 q2 HROA HNEW hbase p0 p1 p2 p3 p4 p5 o0
              go_wp2_with fail
              go_roundw
              case rel => exact ⟨k + 1, _, _, _, ms, by go_num, by omega, HP, (by first | exact HST6.out | (simpa using HST6.out)), HBY⟩
              case measure => simp [intOf]; omega
            · rw [if_neg e6] at HSX
              have e6' : ((nw : Int) == 6) = false := by simp; omega
              clear HHX
              go_upto_region 14 with fail
              have hwf : Hid (∀ x ∈ ([] : List Int), (Lit.int .u8 x).wf = true) := fun x hx => absurd hx (by simp)
              have hbl : (([] : List Int)).length ≤ 1048576 := Nat.zero_le _
              obtain ⟨sa, sc, hvs⟩ := own_shape HSTX.out.rol.ro.secs.row
              obtain ⟨i0, hi0, hz0, hz1, hz2⟩ := info_parts Tryz.info_section
              subst hvs
              have hssl : ss.length ≤ 2000000 := by have := HSTX.out.ns; omega
              have hro := HSTX.out.rol.ro
              have hro2 := hro.only HRS2.out.below
              have o0 : W1.cell? ⟨ob, 0, none⟩ = some (.slice sa ss.length sc) := by rw [← HOB.out]; exact hro2.obj.cell 0
              have p0 : W1.cell? ⟨sb, 0, none⟩ = some (.string x1) := by rw [← HSB.out]; exact HRS2.out.sec.cell 0
              have p1 : W1.cell? ⟨sb, 1, none⟩ = some (.int .i64 n2) := by rw [← HSB.out]; exact HRS2.out.sec.cell 1
              have p2 : W1.cell? ⟨sb, 2, none⟩ = some (.int .i64 n3) := by rw [← HSB.out]; exact HRS2.out.sec.cell 2
              have p3 : W1.cell? ⟨sb, 3, none⟩ = some (.slice none 0 0) := by rw [← HSB.out]; exact HRS2.out.sec.cell 3
              have p4 : W1.cell? ⟨sb, 4, none⟩ = some (.int .i64 n4) := by rw [← HSB.out]; exact HRS2.out.sec.cell 4
              have p5 : W1.cell? ⟨sb, 5, none⟩ = some (.slice none 0 0) := by rw [← HSB.out]; exact HRS2.out.sec.cell 5
              have HROA := hidden (hro2.alloc (.cells #[.string x1, .int .i64 n2, .int .i64 n3, .slice none 0 0, .int .i64 n4, .slice none 0 0] 52))
              have HNEW : Hid (Has (W1.alloc (.cells #[.string x1, .int .i64 n2, .int .i64 n3, .slice none 0 0, .int .i64 n4, .slice none 0 0] 52)) W1.heap.size 52 #[.string x1, .int .i64 n2, .int .i64 n3, .slice none 0 0, .int .i64 n4, .slice none 0 0]) := Has.new _ _ _
              have hbase : w2.heap.size + 1 ≤ (W1.alloc (.cells #[.string x1, .int .i64 n2, .int .i64 n3, .slice none 0 0, .int .i64 n4, .slice none 0 0] 52)).heap.size := HROA.out.obj.lt
              have HFITS : Hid (Sx.fits ⟨x1, n2, n3, ([] : List Int), n4, []⟩) := ⟨by show x1.size ≤ maxLen; unfold maxLen; omega, HI2.out, HI3.out, HI4.out, by show (([] : List Int)).length ≤ _; omega, Nat.zero_le _, fun f hf => by cases hf⟩
              have HRO := hidden hro
              have hXW : Hid (X.heap.size ≤ W1.heap.size) := HRS2.out.below.size
              clear hro hro2
              go_wp2_with (at_builtin; refine wpList_append_own _ rfl _ _ 23 rfl (w2.heap.size + 1) 52 i0 (.agg #[.string ⟨#[]⟩, .int .i64 0, .int .i64 0, .slice none 0 0, .int .i64 0, .slice none 0 0]) 6 88 Tryz.underlying23 hi0 hz0 hz1 hz2 rfl (by decide) _ _ _ rfl HROA.out.secs.row ⟨W1.heap.size, 0, none⟩ 1 1 [.string x1, .int .i64 n2, .int .i64 n3, .slice none 0 0, .int .i64 n4, .slice none 0 0] rfl rfl (fun t u ht => by rw [addr_row, HNEW.out.cell t]; simpa using ht) (by intro u hu; simp at hu; rcases hu with rfl | rfl | rfl | rfl | rfl | rfl <;> rfl) (by unfold maxLen; omega) (by omega) hbase ?_)
              intro v' w' hown hgrow _
              obtain ⟨b2, d2, rfl⟩ := own_shape hown
              obtain ⟨q1, q2⟩ := RO.app (wb := X) (fs := []) (a2 := none) (c2 := 0) (a1 := none) (c1 := 0) (bs := ([] : List Int)) HRO.out (HRS2.out.alloc _) hwf.out hgrow hown
              have hle6 : X.heap.size ≤ (w'.setCell ⟨w2.heap.size, 0, none⟩ (.slice b2 (ss.length + 1) d2)).heap.size := by
                have h1 := hXW.out
                have h2 := hgrow.size
                simp at h2 ⊢
                omega
              have HST6 := hidden (RdSt.addS (y := ⟨⟨x1, n2, n3, ([] : List Int), n4, []⟩, none, 0, none, 0⟩) HSTX.out HFITS.out rfl rfl hle6 q2)
              rw [HOB.out] at q1 q2 HST6
              have ck : w'.cell? ⟨ob, 0, none⟩ = some (.slice sa ss.length sc) := q1.cell 0
              have fk := q1.free 0
              have HP : Hid (parseD ([], []) ((S.take (k + 1)).map numsOf) = some ((ss ++ [(⟨⟨x1, n2, n3, ([] : List Int), n4, []⟩, none, 0, none, 0⟩ : Sp)]).map Sp.s, ms)) := by
                show _ = _
                rw [HSTEP.out, HSX.out, List.map_append]
                rfl
              have HBY : Hid (∀ s ∈ (ss ++ [(⟨⟨x1, n2, n3, ([] : List Int), n4, []⟩, none, 0, none, 0⟩ : Sp)]).map Sp.s, ∀ x ∈ s.bytes, 0 ≤ x ∧ x < 256) := fun s hs => by
                rw [List.map_append] at hs
                rcases List.mem_append.1 hs with h1 | h1
                · exact hby.out s h1
                · rw [List.mem_singleton.1 h1]
                  exact fun x hx => wf_u8.mp (hwf.out x hx)
              clear hown hgrow hle6 q1 q2 HROA HNEW hbase p0 p1 p2 p3 p4 p5 o0
              go_wp2_with fail
              go_roundw
              case rel => exact ⟨k + 1, _, _, _, ms, by go_num, by omega, HP, (by first | exact HST6.out | (simpa using HST6.out)), HBY⟩
              case measure => simp [intOf]; omega
          · have hk3' : (n2 == 3) = false := by simp [hk3]
            rw [if_neg hk3] at HSX
            have HWV := HWW
            clear hk3
            go_upto_region 11 with fail
            by_cases e6 : nw = 6
            · subst e6
              rw [if_pos rfl] at HSX
              have x5c : W.cell? ⟨wb, 5, none⟩ = some (.string x5) := by rw [HWV.out.cell, HWC.out 5 (by omega), HX5.out]
              go_wp2_with fail
              refine (HHX.out W).mono ?_
              rintro e WH ⟨v5, rfl, hrow, hbh⟩
              have hlw := rhx_byte (numsOf x5)
              have hls := rhx_short (numsOf x5)
              obtain ⟨L5, hL5⟩ : ∃ q, (rhx (numsOf x5)).1 = q := ⟨_, rfl⟩
              obtain ⟨b5, hb5'⟩ : ∃ q, (rhx (numsOf x5)).2 = q := ⟨_, rfl⟩
              rw [hL5] at hrow HSX hlw hls
              try rw [hb5']
              rw [numsOf_length] at hls
              obtain ⟨av, cv, rfl⟩ := own_shape hrow
              clear HHX hL5 hb5'
              have hrowX : WH.ownsRow X.heap.size 5 1 (.slice av L5.length cv) L5.length (L5.map (Value.int .u8)) := row_lower hrow HRS.out.below.size
              have hrsH := HRS.out.kept (grown_only hbh)
              have p3 : WH.cell? ⟨sb, 3, none⟩ = some (.slice none 0 0) := by rw [← HSB.out]; exact hrsH.sec.cell 3
              have e3 : WH.frozen? ⟨sb, 3, none⟩ = false := by rw [← HSB.out]; exact hrsH.sec.free 3
              have HRS5 := hidden (HRS.out.bytes (grown_only hbh) hrowX)
              rw [HSB.out] at HRS5
              clear hrow hrowX hrsH hbh x5c
              go_upto_region 14 with fail
              obtain ⟨W5, hW5⟩ : ∃ q, WH.setCell ⟨sb, 3, none⟩ (.slice av L5.length cv) = q := ⟨_, rfl⟩
              rw [hW5] at HRS5
              try rw [hW5]
              clear hW5 p3 e3
              have hwf : Hid (∀ x ∈ L5, (Lit.int .u8 x).wf = true) := fun x hx => wf_u8.mpr (hlw x hx)
              have hbl : (L5).length ≤ 1048576 := by omega
              obtain ⟨sa, sc, hvs⟩ := own_shape HSTX.out.rol.ro.secs.row
              obtain ⟨i0, hi0, hz0, hz1, hz2⟩ := info_parts Tryz.info_section
              subst hvs
              have hssl : ss.length ≤ 2000000 := by have := HSTX.out.ns; omega
              have hro := HSTX.out.rol.ro
              have hro2 := hro.only HRS5.out.below
              have o0 : W5.cell? ⟨ob, 0, none⟩ = some (.slice sa ss.length sc) := by rw [← HOB.out]; exact hro2.obj.cell 0
              have p0 : W5.cell? ⟨sb, 0, none⟩ = some (.string x1) := by rw [← HSB.out]; exact HRS5.out.sec.cell 0
              have p1 : W5.cell? ⟨sb, 1, none⟩ = some (.int .i64 n2) := by rw [← HSB.out]; exact HRS5.out.sec.cell 1
              have p2 : W5.cell? ⟨sb, 2, none⟩ = some (.int .i64 n3) := by rw [← HSB.out]; exact HRS5.out.sec.cell 2
              have p3 : W5.cell? ⟨sb, 3, none⟩ = some (.slice av L5.length cv) := by rw [← HSB.out]; exact HRS5.out.sec.cell 3
              have p4 : W5.cell? ⟨sb, 4, none⟩ = some (.int .i64 0) := by rw [← HSB.out]; exact HRS5.out.sec.cell 4
              have p5 : W5.cell? ⟨sb, 5, none⟩ = some (.slice none 0 0) := by rw [← HSB.out]; exact HRS5.out.sec.cell 5
              have HROA := hidden (hro2.alloc (.cells #[.string x1, .int .i64 n2, .int .i64 n3, .slice av L5.length cv, .int .i64 0, .slice none 0 0] 52))
              have HNEW : Hid (Has (W5.alloc (.cells #[.string x1, .int .i64 n2, .int .i64 n3, .slice av L5.length cv, .int .i64 0, .slice none 0 0] 52)) W5.heap.size 52 #[.string x1, .int .i64 n2, .int .i64 n3, .slice av L5.length cv, .int .i64 0, .slice none 0 0]) := Has.new _ _ _
              have hbase : w2.heap.size + 1 ≤ (W5.alloc (.cells #[.string x1, .int .i64 n2, .int .i64 n3, .slice av L5.length cv, .int .i64 0, .slice none 0 0] 52)).heap.size := HROA.out.obj.lt
              have HFITS : Hid (Sx.fits ⟨x1, n2, n3, L5, 0, []⟩) := ⟨by show x1.size ≤ maxLen; unfold maxLen; omega, HI2.out, HI3.out, (show I64 (0 : Int) from ⟨by decide, by decide⟩), by show (L5).length ≤ _; omega, Nat.zero_le _, fun f hf => by cases hf⟩
              have HRO := hidden hro
              have hXW : Hid (X.heap.size ≤ W5.heap.size) := HRS5.out.below.size
              clear hro hro2
              go_wp2_with (at_builtin; refine wpList_append_own _ rfl _ _ 23 rfl (w2.heap.size + 1) 52 i0 (.agg #[.string ⟨#[]⟩, .int .i64 0, .int .i64 0, .slice none 0 0, .int .i64 0, .slice none 0 0]) 6 88 Tryz.underlying23 hi0 hz0 hz1 hz2 rfl (by decide) _ _ _ rfl HROA.out.secs.row ⟨W5.heap.size, 0, none⟩ 1 1 [.string x1, .int .i64 n2, .int .i64 n3, .slice av L5.length cv, .int .i64 0, .slice none 0 0] rfl rfl (fun t u ht => by rw [addr_row, HNEW.out.cell t]; simpa using ht) (by intro u hu; simp at hu; rcases hu with rfl | rfl | rfl | rfl | rfl | rfl <;> rfl) (by unfold maxLen; omega) (by omega) hbase ?_)
              intro v' w' hown hgrow _
              obtain ⟨b2, d2, rfl⟩ := own_shape hown
              obtain ⟨q1, q2⟩ := RO.app (wb := X) (fs := []) (a2 := none) (c2 := 0) (a1 := av) (c1 := cv) (bs := L5) HRO.out (HRS5.out.alloc _) hwf.out hgrow hown
              have hle6 : X.heap.size ≤ (w'.setCell ⟨w2.heap.size, 0, none⟩ (.slice b2 (ss.length + 1) d2)).heap.size := by
                have h1 := hXW.out
                have h2 := hgrow.size
                simp at h2 ⊢
                omega
              have HST6 := hidden (RdSt.addS (y := ⟨⟨x1, n2, n3, L5, 0, []⟩, av, cv, none, 0⟩) HSTX.out HFITS.out rfl rfl hle6 q2)
              rw [HOB.out] at q1 q2 HST6
              have ck : w'.cell? ⟨ob, 0, none⟩ = some (.slice sa ss.length sc) := q1.cell 0
              have fk := q1.free 0
              have HP : Hid (parseD ([], []) ((S.take (k + 1)).map numsOf) = some ((ss ++ [(⟨⟨x1, n2, n3, L5, 0, []⟩, av, cv, none, 0⟩ : Sp)]).map Sp.s, ms)) := by
                show _ = _
                rw [HSTEP.out, HSX.out, List.map_append]
                rfl
              have HBY : Hid (∀ s ∈ (ss ++ [(⟨⟨x1, n2, n3, L5, 0, []⟩, av, cv, none, 0⟩ : Sp)]).map Sp.s, ∀ x ∈ s.bytes, 0 ≤ x ∧ x < 256) := fun s hs => by
                rw [List.map_append] at hs
                rcases List.mem_append.1 hs with h1 | h1
                · exact hby.out s h1
                · rw [List.mem_singleton.1 h1]
                  exact fun x hx => wf_u8.mp (hwf.out x hx)
              clear hown hgrow hle6 q1 q2 HROA HNEW hbase p0 p1 p2 p3 p4 p5 o0
              go_wp2_with fail
              go_roundw
              case rel => exact ⟨k + 1, _, _, _, ms, by go_num, by omega, HP, (by first | exact HST6.out | (simpa using HST6.out)), HBY⟩
              case measure => simp [intOf]; omega
            · rw [if_neg e6] at HSX
              have e6' : ((nw : Int) == 6) = false := by simp; omega
              clear HHX
              go_upto_region 14 with fail
              have hwf : Hid (∀ x ∈ ([] : List Int), (Lit.int .u8 x).wf = true) := fun x hx => absurd hx (by simp)
              have hbl : (([] : List Int)).length ≤ 1048576 := Nat.zero_le _
              obtain ⟨sa, sc, hvs⟩ := own_shape HSTX.out.rol.ro.secs.row
              obtain ⟨i0, hi0, hz0, hz1, hz2⟩ := info_parts Tryz.info_section
              subst hvs
              have hssl : ss.length ≤ 2000000 := by have := HSTX.out.ns; omega
              have hro := HSTX.out.rol.ro
              have hro2 := hro.only HRS.out.below
              have o0 : W.cell? ⟨ob, 0, none⟩ = some (.slice sa ss.length sc) := by rw [← HOB.out]; exact hro2.obj.cell 0
              have p0 : W.cell? ⟨sb, 0, none⟩ = some (.string x1) := by rw [← HSB.out]; exact HRS.out.sec.cell 0
              have p1 : W.cell? ⟨sb, 1, none⟩ = some (.int .i64 n2) := by rw [← HSB.out]; exact HRS.out.sec.cell 1
              have p2 : W.cell? ⟨sb, 2, none⟩ = some (.int .i64 n3) := by rw [← HSB.out]; exact HRS.out.sec.cell 2
              have p3 : W.cell? ⟨sb, 3, none⟩ = some (.slice none 0 0) := by rw [← HSB.out]; exact HRS.out.sec.cell 3
              have p4 : W.cell? ⟨sb, 4, none⟩ = some (.int .i64 0) := by rw [← HSB.out]; exact HRS.out.sec.cell 4
              have p5 : W.cell? ⟨sb, 5, none⟩ = some (.slice none 0 0) := by rw [← HSB.out]; exact HRS.out.sec.cell 5
              have HROA := hidden (hro2.alloc (.cells #[.string x1, .int .i64 n2, .int .i64 n3, .slice none 0 0, .int .i64 0, .slice none 0 0] 52))
              have HNEW : Hid (Has (W.alloc (.cells #[.string x1, .int .i64 n2, .int .i64 n3, .slice none 0 0, .int .i64 0, .slice none 0 0] 52)) W.heap.size 52 #[.string x1, .int .i64 n2, .int .i64 n3, .slice none 0 0, .int .i64 0, .slice none 0 0]) := Has.new _ _ _
              have hbase : w2.heap.size + 1 ≤ (W.alloc (.cells #[.string x1, .int .i64 n2, .int .i64 n3, .slice none 0 0, .int .i64 0, .slice none 0 0] 52)).heap.size := HROA.out.obj.lt
              have HFITS : Hid (Sx.fits ⟨x1, n2, n3, ([] : List Int), 0, []⟩) := ⟨by show x1.size ≤ maxLen; unfold maxLen; omega, HI2.out, HI3.out, (show I64 (0 : Int) from ⟨by decide, by decide⟩), by show (([] : List Int)).length ≤ _; omega, Nat.zero_le _, fun f hf => by cases hf⟩
              have HRO := hidden hro
              have hXW : Hid (X.heap.size ≤ W.heap.size) := HRS.out.below.size
              clear hro hro2
              go_wp2_with (at_builtin; refine wpList_append_own _ rfl _ _ 23 rfl (w2.heap.size + 1) 52 i0 (.agg #[.string ⟨#[]⟩, .int .i64 0, .int .i64 0, .slice none 0 0, .int .i64 0, .slice none 0 0]) 6 88 Tryz.underlying23 hi0 hz0 hz1 hz2 rfl (by decide) _ _ _ rfl HROA.out.secs.row ⟨W.heap.size, 0, none⟩ 1 1 [.string x1, .int .i64 n2, .int .i64 n3, .slice none 0 0, .int .i64 0, .slice none 0 0] rfl rfl (fun t u ht => by rw [addr_row, HNEW.out.cell t]; simpa using ht) (by intro u hu; simp at hu; rcases hu with rfl | rfl | rfl | rfl | rfl | rfl <;> rfl) (by unfold maxLen; omega) (by omega) hbase ?_)
              intro v' w' hown hgrow _
              obtain ⟨b2, d2, rfl⟩ := own_shape hown
              obtain ⟨q1, q2⟩ := RO.app (wb := X) (fs := []) (a2 := none) (c2 := 0) (a1 := none) (c1 := 0) (bs := ([] : List Int)) HRO.out (HRS.out.alloc _) hwf.out hgrow hown
              have hle6 : X.heap.size ≤ (w'.setCell ⟨w2.heap.size, 0, none⟩ (.slice b2 (ss.length + 1) d2)).heap.size := by
                have h1 := hXW.out
                have h2 := hgrow.size
                simp at h2 ⊢
                omega
              have HST6 := hidden (RdSt.addS (y := ⟨⟨x1, n2, n3, ([] : List Int), 0, []⟩, none, 0, none, 0⟩) HSTX.out HFITS.out rfl rfl hle6 q2)
              rw [HOB.out] at q1 q2 HST6
              have ck : w'.cell? ⟨ob, 0, none⟩ = some (.slice sa ss.length sc) := q1.cell 0
              have fk := q1.free 0
              have HP : Hid (parseD ([], []) ((S.take (k + 1)).map numsOf) = some ((ss ++ [(⟨⟨x1, n2, n3, ([] : List Int), 0, []⟩, none, 0, none, 0⟩ : Sp)]).map Sp.s, ms)) := by
                show _ = _
                rw [HSTEP.out, HSX.out, List.map_append]
                rfl
              have HBY : Hid (∀ s ∈ (ss ++ [(⟨⟨x1, n2, n3, ([] : List Int), 0, []⟩, none, 0, none, 0⟩ : Sp)]).map Sp.s, ∀ x ∈ s.bytes, 0 ≤ x ∧ x < 256) := fun s hs => by
                rw [List.map_append] at hs
                rcases List.mem_append.1 hs with h1 | h1
                · exact hby.out s h1
                · rw [List.mem_singleton.1 h1]
                  exact fun x hx => wf_u8.mp (hwf.out x hx)
              clear hown hgrow hle6 q1 q2 HROA HNEW hbase p0 p1 p2 p3 p4 p5 o0
              go_wp2_with fail
              go_roundw
              case rel => exact ⟨k + 1, _, _, _, ms, by go_num, by omega, HP, (by first | exact HST6.out | (simpa using HST6.out)), HBY⟩
              case measure => simp [intOf]; omega
      have hb1 : (x0.toList == [115, 101, 99, 116, 105, 111, 110]) = false := by
        have h := str_ne e1
        rw [toList_data wSec] at h
        exact h
      by_cases e2 : x0 = wFix
      · subst e2
        by_cases h5 : nw = 5
        · subst h5
          by_cases hs0 : ss = []
          · subst hs0
            obtain ⟨av, cv, hvs⟩ := own_shape HST5.out.rol.ro.secs.row
            subst hvs
            have o0 : w5.cell? ⟨ob, 0, none⟩ = some (.slice av 0 cv) := by rw [← HOB.out]; exact HST5.out.rol.ro.obj.cell 0
            have HF : Hid (rdD (S.map numsOf) = none) := HFAIL.out (by unfold stepW; dsimp only; rw [HX0.out, HNW.out, if_neg (fun h => absurd h.1 (by decide)), if_neg (fun h => absurd h.2.2 (by simp)), if_neg (fun h => absurd h.1 (by decide))])
            have hres5 := HRX.out w5 HB5.out
            have r0 : w5.cell? ⟨rb, 0, none⟩ = some (.slice none 0 0) := hres5.cell 0
            have r1 : w5.cell? ⟨rb, 1, none⟩ = some (.slice none 0 0) := hres5.cell 1
            have f0 := hres5.free 0
            have f1 := hres5.free 1
            clear hres5
            go_wp21
            refine bodyPost_ret (results_cell_row3 rfl _ _ rb 26 #[.slice none 0 0, .slice none 0 0] (0, 0) _ rfl HDF.out Tryz.underlying26 rfl (by kernel_rfl)) rfl ?_
            exact ⟨HDB.out, .inl ⟨HF.out, rfl⟩⟩
          obtain ⟨ss0, y, rfl⟩ : ∃ ss0 y, ss = ss0 ++ [y] := by
            rcases List.eq_nil_or_concat ss with h | ⟨p, q, h⟩
            · exact absurd h hs0
            · exact ⟨p, q, by rw [h, List.concat_eq_append]⟩
          obtain ⟨sn0, hsn⟩ : ∃ q, ss0.length = q := ⟨_, rfl⟩
          have hX0 := HST5.out
          obtain ⟨lo0, hlo0, hlast⟩ := hX0.rol.last
          obtain ⟨hly0, hlz0⟩ := hlast ss0 y rfl
          have hy : y ∈ ss0 ++ [y] := by simp
          obtain ⟨lo, hlo⟩ : ∃ q, max lo0 (w2.heap.size + 1) = q := ⟨_, rfl⟩
          have hloX : lo ≤ w5.heap.size := by have := hX0.rol.ro.obj.lt; omega
          have hlb : w2.heap.size + 1 ≤ lo := by omega
          have hlz : ∀ z ∈ ss0, ∀ g, z.a2 = some g → g.block < lo := fun z hz g hg => by have := hlz0 z hz g hg; omega
          have hly : ∀ g, y.a2 = some g → lo ≤ g.block := fun g hg => by have h1 := hly0 g hg; have h2 := (own_at (hX0.rol.ro.secs.own2 y hy) g hg).2.1; omega
          obtain ⟨sg, cs, cur0, hvs, hsgX, -⟩ := hX0.rol.ro.secsAt
          rw [hsn] at hvs
          have hsnk : sn0 + 1 ≤ 2000000 := by have := hX0.ns; simp only [List.length_append, List.length_singleton] at this; omega
          obtain ⟨nf, hnf⟩ : ∃ q, y.s.fixs.length = q := ⟨_, rfl⟩
          have HNF := hidden hnf
          have hnf2 : nf ≤ 2000000 := by rw [← hnf]; have := hX0.nf y (by simp); omega
          have HVS := hidden hvs
          have HSN := hidden hsn
          have HLO := hidden (And.intro hlb (And.intro hlz hly))
          have hobj5 := hX0.rol.ro.obj
          rw [HOB.out] at hobj5
          have o0 : w5.cell? ⟨ob, 0, none⟩ = some (.slice (some ⟨sg, 0, none⟩) (sn0 + 1) cs) := by rw [← hvs]; exact hobj5.cell 0
          have HSX : Hid (stepW ((ss0 ++ [y]).map Sp.s, ms) ws = some (ss0.map Sp.s ++ [{ y.s with fixs := y.s.fixs ++ [⟨n1, n2, n3, n4⟩] }], ms)) := by
            show _ = _
            unfold stepW
            dsimp only
            rw [HX0.out, HNW.out, if_neg (fun h => absurd h.1 (by decide)), if_pos ⟨rfl, rfl, by simp⟩, HM1.out, HM2.out, HM3.out, HM4.out]
            simp
          have i1 : (1 : Int) < ((5 : Nat) : Int) := by decide
          have i2 : (2 : Int) < ((5 : Nat) : Int) := by decide
          have i3 : (3 : Int) < ((5 : Nat) : Int) := by decide
          have i4 : (4 : Int) < ((5 : Nat) : Int) := by decide
          have hd0 : (0 : Int) < ((sn0 + 1 : Nat) : Int) := by omega
          have hd1 : (0 : Int) < (sn0 : Int) + 1 := by omega
          have hix : (((sn0 + 1 : Nat) : Int) - 1) = (sn0 : Int) := by omega
          have hiw : IntKind.i64.wrap (sn0 : Int) = (sn0 : Int) := IntWalk.i64_in _ (by omega)
          have hiw2 : IntKind.i64.wrap (((sn0 + 1 : Nat) : Int) - 1) = (sn0 : Int) := by rw [hix]; exact hiw
          have hil : (sn0 : Int) < ((sn0 + 1 : Nat) : Int) := by omega
          have hi0 : (0 : Int) ≤ (sn0 : Int) := by omega
          have hil2 : (sn0 : Int) < (sn0 : Int) + 1 := by omega
          obtain ⟨i1', hi1, hy0, hy1, hy2⟩ := info_parts Tryz.info_fixup
          have HQ1 : Hid (∀ W : World, Has W wb 9 wcur → W.cell? ⟨wb, 1, none⟩ = some (.string x1)) := fun W hW => by rw [hW.cell, HWC.out 1 (by omega), HX1.out]
          have HQ2 : Hid (∀ W : World, Has W wb 9 wcur → W.cell? ⟨wb, 2, none⟩ = some (.string x2)) := fun W hW => by rw [hW.cell, HWC.out 2 (by omega), HX2.out]
          have HQ3 : Hid (∀ W : World, Has W wb 9 wcur → W.cell? ⟨wb, 3, none⟩ = some (.string x3)) := fun W hW => by rw [hW.cell, HWC.out 3 (by omega), HX3.out]
          have HQ4 : Hid (∀ W : World, Has W wb 9 wcur → W.cell? ⟨wb, 4, none⟩ = some (.string x4)) := fun W hW => by rw [hW.cell, HWC.out 4 (by omega), HX4.out]
          have hJ0 : Hid (JFW w2 w5.heap.size ob sg wb wcur vs vm ss0 y nf ms ⟨n1, n2, n3, n4⟩ lo 0 w5.drew fun _ => undef) := ⟨Nat.le_refl _, HWH.out, hobj5, fun _ => hX0.rol.ro.drew, fun h => absurd h (by decide), fun h => absurd h (by decide), fun h => absurd h (by decide)⟩
          clear hX0 hlast hly0 hlz0 hy hlo hlb hlz hly hsgX hvs hsn hnf hobj5 hs0 hlo0
          go_upto_region 17 with fail
          refine wp_region_stir (m := 3) (js := [.quiet (.pointer (some ⟨ob, 0, none⟩)) 3, .quiet (.slice (some ⟨sg, 0, none⟩) (sn0 + 1) cs) 3, .quiet (.int .i64 sn0) 3, .quiet (.pointer (some ⟨ob, 0, none⟩)) 3, .quiet (.slice (some ⟨sg, 0, none⟩) (sn0 + 1) cs) 3, .quiet (.int .i64 sn0) 3, .quiet (.pointer (some ⟨sg, sn0 * 6, none⟩)) 3, .quiet (.pointer (some ⟨sg, sn0 * 6 + 5, none⟩)) 3, .quiet (.slice y.a2 nf y.c2) 1, .quiet (.slice (some ⟨wb, 0, none⟩) 5 cw) 3, .quiet (.pointer (some ⟨wb, 1, none⟩)) 3, .quiet (.string x1) 3, .quiet (.int .i64 n1) 3, .quiet (.slice (some ⟨wb, 0, none⟩) 5 cw) 3, .quiet (.pointer (some ⟨wb, 2, none⟩)) 3, .quiet (.string x2) 3, .quiet (.int .i64 n2) 3, .quiet (.slice (some ⟨wb, 0, none⟩) 5 cw) 3, .quiet (.pointer (some ⟨wb, 3, none⟩)) 3, .quiet (.string x3) 3, .quiet (.int .i64 n3) 3, .quiet (.slice (some ⟨wb, 0, none⟩) 5 cw) 3, .quiet (.pointer (some ⟨wb, 4, none⟩)) 3, .quiet (.string x4) 3, .quiet (.int .i64 n4) 3, .quiet (.agg #[.int .i64 n1, .int .i64 n2, .int .i64 n3, .int .i64 n4]) 3, .chain 0, .chain 1, .quiet (.pointer (some ⟨sg, sn0 * 6, none⟩)) 3, .quiet (.pointer (some ⟨sg, sn0 * 6 + 5, none⟩)) 3, .chain 2]) (by kernel_rfl) (JFW w2 w5.heap.size ob sg wb wcur vs vm ss0 y nf ms ⟨n1, n2, n3, n4⟩ lo) (by kernel_rfl) (by kernel_rfl) ⟨_, hJ0.out⟩ (fun vals => ?_) ?_
          · show SeqS _ _ _ _ _ _ _
            refine ⟨fun kk hkk W hW => ?_, ?_⟩
            · unfold Oper.wp
              simp [go_sem]
              try first | exact ⟨_, rfl, rfl⟩ | exact ⟨_, rfl, rfl, .inl rfl⟩ | exact .inl rfl
            simp only [Act.put, List.setIfInBounds_toArray, List.set_cons_succ, List.set_cons_zero]
            refine ⟨fun kk hkk W hW => ?_, ?_⟩
            · have q : W.cell? ⟨ob, 0, none⟩ = some (.slice (some ⟨sg, 0, none⟩) (sn0 + 1) cs) := by rw [← HVS.out]; exact hW.obj.cell 0
              unfold Oper.wp
              simp [go_sem, q]
              try first | exact ⟨_, rfl, rfl⟩ | exact ⟨_, rfl, rfl, .inl rfl⟩ | exact .inl rfl
            simp only [Act.put, List.setIfInBounds_toArray, List.set_cons_succ, List.set_cons_zero]
            iterate 2
              refine ⟨fun kk hkk W hW => ?_, ?_⟩
              · unfold Oper.wp
                simp [go_sem]
                try first | exact ⟨_, rfl, rfl⟩ | exact ⟨_, rfl, rfl, .inl rfl⟩ | exact .inl rfl
              simp only [Act.put, List.setIfInBounds_toArray, List.set_cons_succ, List.set_cons_zero]
            refine ⟨fun kk hkk W hW => ?_, ?_⟩
            · have q : W.cell? ⟨ob, 0, none⟩ = some (.slice (some ⟨sg, 0, none⟩) (sn0 + 1) cs) := by rw [← HVS.out]; exact hW.obj.cell 0
              unfold Oper.wp
              simp [go_sem, q]
              try first | exact ⟨_, rfl, rfl⟩ | exact ⟨_, rfl, rfl, .inl rfl⟩ | exact .inl rfl
            simp only [Act.put, List.setIfInBounds_toArray, List.set_cons_succ, List.set_cons_zero]
            refine ⟨fun kk hkk W hW => ?_, ?_⟩
            · unfold Oper.wp
              simp [go_sem]
              try first | exact ⟨_, rfl, rfl⟩ | exact ⟨_, rfl, rfl, .inl rfl⟩ | exact .inl rfl
            simp only [Act.put, List.setIfInBounds_toArray, List.set_cons_succ, List.set_cons_zero]
            refine ⟨fun kk hkk W hW => ?_, ?_⟩
            · unfold Oper.wp
              simp [go_sem, hil2, hi0]
              try first | exact ⟨_, rfl, rfl⟩ | exact ⟨_, rfl, rfl, .inl rfl⟩ | exact .inl rfl
            simp only [Act.put, List.setIfInBounds_toArray, List.set_cons_succ, List.set_cons_zero]
            refine ⟨fun kk hkk W hW => ?_, ?_⟩
            · unfold Oper.wp
              simp [go_sem]
              try first | exact ⟨_, rfl, rfl⟩ | exact ⟨_, rfl, rfl, .inl rfl⟩ | exact .inl rfl
            simp only [Act.put, List.setIfInBounds_toArray, List.set_cons_succ, List.set_cons_zero]
            refine ⟨fun kk hkk W hW => ?_, ?_⟩
            · obtain ⟨sg', cs', cur, e1, hh, hc⟩ := (hW.ro hkk).secsAt
              rw [HVS.out] at e1
              have e2 : sg = sg' := by injection e1 with e1; injection e1 with e1; injection e1
              subst e2
              rw [HSN.out, HNF.out] at hc
              have q : W.cell? ⟨sg, sn0 * 6 + 5, none⟩ = some (.slice y.a2 nf y.c2) := (hh.cell _).trans hc
              unfold Oper.wp
              simp [go_sem, q]
              try first | exact ⟨_, rfl, rfl⟩ | exact ⟨_, rfl, rfl, .inl rfl⟩ | exact .inl rfl
            simp only [Act.put, List.setIfInBounds_toArray, List.set_cons_succ, List.set_cons_zero]
            iterate 2
              refine ⟨fun kk hkk W hW => ?_, ?_⟩
              · unfold Oper.wp
                simp [go_sem]
                try first | exact ⟨_, rfl, rfl⟩ | exact ⟨_, rfl, rfl, .inl rfl⟩ | exact .inl rfl
              simp only [Act.put, List.setIfInBounds_toArray, List.set_cons_succ, List.set_cons_zero]
            refine ⟨fun kk hkk W hW => ?_, ?_⟩
            · have q : W.cell? ⟨wb, 1, none⟩ = some (.string x1) := HQ1.out W hW.words
              unfold Oper.wp
              simp [go_sem, q]
              try first | exact ⟨_, rfl, rfl⟩ | exact ⟨_, rfl, rfl, .inl rfl⟩ | exact .inl rfl
            simp only [Act.put, List.setIfInBounds_toArray, List.set_cons_succ, List.set_cons_zero]
            refine ⟨fun kk hkk W hW => ?_, ?_⟩
            · unfold Oper.wp
              simp [go_sem]
              refine (HY1.out W).mono ?_
              rintro e W9 ⟨rfl, hb9⟩
              have hs9 := hW.stir hb9
              first | exact .inr hs9 | exact ⟨rfl, .inr hs9⟩ | exact ⟨rfl, rfl, .inr hs9⟩ | exact ⟨_, rfl, rfl, .inr hs9⟩
            simp only [Act.put, List.setIfInBounds_toArray, List.set_cons_succ, List.set_cons_zero]
            iterate 2
              refine ⟨fun kk hkk W hW => ?_, ?_⟩
              · unfold Oper.wp
                simp [go_sem]
                try first | exact ⟨_, rfl, rfl⟩ | exact ⟨_, rfl, rfl, .inl rfl⟩ | exact .inl rfl
              simp only [Act.put, List.setIfInBounds_toArray, List.set_cons_succ, List.set_cons_zero]
            refine ⟨fun kk hkk W hW => ?_, ?_⟩
            · have q : W.cell? ⟨wb, 2, none⟩ = some (.string x2) := HQ2.out W hW.words
              unfold Oper.wp
              simp [go_sem, q]
              try first | exact ⟨_, rfl, rfl⟩ | exact ⟨_, rfl, rfl, .inl rfl⟩ | exact .inl rfl
            simp only [Act.put, List.setIfInBounds_toArray, List.set_cons_succ, List.set_cons_zero]
            refine ⟨fun kk hkk W hW => ?_, ?_⟩
            · unfold Oper.wp
              simp [go_sem]
              refine (HY2.out W).mono ?_
              rintro e W9 ⟨rfl, hb9⟩
              have hs9 := hW.stir hb9
              first | exact .inr hs9 | exact ⟨rfl, .inr hs9⟩ | exact ⟨rfl, rfl, .inr hs9⟩ | exact ⟨_, rfl, rfl, .inr hs9⟩
            simp only [Act.put, List.setIfInBounds_toArray, List.set_cons_succ, List.set_cons_zero]
            iterate 2
              refine ⟨fun kk hkk W hW => ?_, ?_⟩
              · unfold Oper.wp
                simp [go_sem]
                try first | exact ⟨_, rfl, rfl⟩ | exact ⟨_, rfl, rfl, .inl rfl⟩ | exact .inl rfl
              simp only [Act.put, List.setIfInBounds_toArray, List.set_cons_succ, List.set_cons_zero]
            refine ⟨fun kk hkk W hW => ?_, ?_⟩
            · have q : W.cell? ⟨wb, 3, none⟩ = some (.string x3) := HQ3.out W hW.words
              unfold Oper.wp
              simp [go_sem, q]
              try first | exact ⟨_, rfl, rfl⟩ | exact ⟨_, rfl, rfl, .inl rfl⟩ | exact .inl rfl
            simp only [Act.put, List.setIfInBounds_toArray, List.set_cons_succ, List.set_cons_zero]
            refine ⟨fun kk hkk W hW => ?_, ?_⟩
            · unfold Oper.wp
              simp [go_sem]
              refine (HY3.out W).mono ?_
              rintro e W9 ⟨rfl, hb9⟩
              have hs9 := hW.stir hb9
              first | exact .inr hs9 | exact ⟨rfl, .inr hs9⟩ | exact ⟨rfl, rfl, .inr hs9⟩ | exact ⟨_, rfl, rfl, .inr hs9⟩
            simp only [Act.put, List.setIfInBounds_toArray, List.set_cons_succ, List.set_cons_zero]
            iterate 2
              refine ⟨fun kk hkk W hW => ?_, ?_⟩
              · unfold Oper.wp
                simp [go_sem]
                try first | exact ⟨_, rfl, rfl⟩ | exact ⟨_, rfl, rfl, .inl rfl⟩ | exact .inl rfl
              simp only [Act.put, List.setIfInBounds_toArray, List.set_cons_succ, List.set_cons_zero]
            refine ⟨fun kk hkk W hW => ?_, ?_⟩
            · have q : W.cell? ⟨wb, 4, none⟩ = some (.string x4) := HQ4.out W hW.words
              unfold Oper.wp
              simp [go_sem, q]
              try first | exact ⟨_, rfl, rfl⟩ | exact ⟨_, rfl, rfl, .inl rfl⟩ | exact .inl rfl
            simp only [Act.put, List.setIfInBounds_toArray, List.set_cons_succ, List.set_cons_zero]
            refine ⟨fun kk hkk W hW => ?_, ?_⟩
            · unfold Oper.wp
              simp [go_sem]
              refine (HY4.out W).mono ?_
              rintro e W9 ⟨rfl, hb9⟩
              have hs9 := hW.stir hb9
              first | exact .inr hs9 | exact ⟨rfl, .inr hs9⟩ | exact ⟨rfl, rfl, .inr hs9⟩ | exact ⟨_, rfl, rfl, .inr hs9⟩
            simp only [Act.put, List.setIfInBounds_toArray, List.set_cons_succ, List.set_cons_zero]
            refine ⟨fun kk hkk W hW => ?_, ?_⟩
            · unfold Oper.wp
              simp [go_sem]
              try first | exact ⟨_, rfl, rfl⟩ | exact ⟨_, rfl, rfl, .inl rfl⟩ | exact .inl rfl
            simp only [Act.put, List.setIfInBounds_toArray, List.set_cons_succ, List.set_cons_zero]
            refine ⟨fun W hW => ?_, ?_⟩
            · have hbA := (Below.refl W.heap.size W).alloc (Nat.le_refl _) (.cells #[.int .i64 n1, .int .i64 n2, .int .i64 n3, .int .i64 n4] 55)
              have hN : JFW w2 w5.heap.size ob sg wb wcur vs vm ss0 y nf ms ⟨n1, n2, n3, n4⟩ lo 1 (W.alloc (.cells #[.int .i64 n1, .int .i64 n2, .int .i64 n3, .int .i64 n4] 55)) (upd vals 0 (.slice (some ⟨W.heap.size, 0, none⟩) 1 1)) := ⟨Nat.le_trans hW.high (by simp), hW.words.below hbA hW.words.lt, hW.obj.below hbA hW.obj.lt, fun _ => (hW.ro (by decide)).alloc _, fun _ => ⟨W.heap.size, rfl, Has.new _ _ _⟩, fun h => absurd h (by decide), fun h => absurd h (by decide)⟩
              clear hbA
              unfold Oper.wp
              simp [go_sem]
              first | exact hN | exact ⟨_, rfl, hN⟩
            simp only [Act.put, List.setIfInBounds_toArray, List.set_cons_succ, List.set_cons_zero]
            refine ⟨fun W hW => ?_, ?_⟩
            · obtain ⟨qb, hv, hh⟩ := hW.arr rfl
              have hro := hW.ro (by decide)
              obtain ⟨hlb, hlz, hly⟩ := HLO.out
              have hown := own_raise (hro.secs.own2 y (by simp)) hly
              have hwo : some wb ≠ (Value.slice y.a2 y.s.fixs.length y.c2).ownBlock := hW.words.other hown (by decide)
              have hoo : some ob ≠ (Value.slice y.a2 y.s.fixs.length y.c2).ownBlock := hW.obj.other hown (by decide)
              rw [HNF.out] at hown
              refine wp_append_own W _ _ _ rfl lo 55 i1' (.agg #[.int .i64 0, .int .i64 0, .int .i64 0, .int .i64 0]) 4 32 Tryz.underlying50 hi1 hy0 hy1 hy2 rfl (by decide) _ _ _ rfl hown ⟨qb, 0, none⟩ 1 1 [.int .i64 n1, .int .i64 n2, .int .i64 n3, .int .i64 n4] hv ?_ ?_ ?_ ?_ ?_ ?_ ?_
              · rfl
              · intro t q ht
                rw [addr_row, hh.cell t]
                simpa using ht
              · intro q hq
                simp at hq
                rcases hq with rfl | rfl | rfl | rfl <;> rfl
              · unfold maxLen; omega
              · omega
              · exact Nat.le_trans hloX hW.high
              · intro v' w' h2 h3 _
                obtain ⟨b2, d2, rfl⟩ := own_shape h2
                have h2' : w'.ownsRow lo 55 4 (.slice b2 (y.s.fixs.length + 1) d2) (y.s.fixs.length + 1) (flatF y.s.fixs ++ [.int .i64 n1, .int .i64 n2, .int .i64 n3, .int .i64 n4]) := by rw [HNF.out]; exact h2
                have h3' : W.grownBy w' (Value.slice y.a2 y.s.fixs.length y.c2).ownBlock := by rw [HNF.out]; exact h3
                obtain ⟨sg', cs', e1, ⟨cur, hc1, hc2, hc3⟩, hro', hge⟩ := hro.fixLast hlz hly (f := ⟨n1, n2, n3, n4⟩) h3' hlb h2'
                rw [HVS.out] at e1
                have e2 : sg = sg' := by injection e1 with e1; injection e1 with e1; injection e1
                subst e2
                rw [HNF.out] at hc3 hro'
                exact ⟨_, rfl, ⟨Nat.le_trans hW.high h3.size, hW.words.grown h3' hwo, hW.obj.grown h3' hoo, fun h => absurd h (by decide), fun h => absurd h (by decide), fun _ => ⟨b2, d2, cur, rfl, hc2, hc3, hro', hge⟩, fun h => absurd h (by decide)⟩⟩
            simp only [Act.put, List.setIfInBounds_toArray, List.set_cons_succ, List.set_cons_zero]
            refine ⟨fun kk hkk W hW => ?_, ?_⟩
            · unfold Oper.wp
              simp [go_sem, hil2, hi0]
              try first | exact ⟨_, rfl, rfl⟩ | exact ⟨_, rfl, rfl, .inl rfl⟩ | exact .inl rfl
            simp only [Act.put, List.setIfInBounds_toArray, List.set_cons_succ, List.set_cons_zero]
            refine ⟨fun kk hkk W hW => ?_, ?_⟩
            · unfold Oper.wp
              simp [go_sem]
              try first | exact ⟨_, rfl, rfl⟩ | exact ⟨_, rfl, rfl, .inl rfl⟩ | exact .inl rfl
            simp only [Act.put, List.setIfInBounds_toArray, List.set_cons_succ, List.set_cons_zero]
            refine ⟨fun W hW => ?_, trivial⟩
            obtain ⟨b2, d2, cur, hv2, hc1, hc2, hro2, hge⟩ := hW.app rfl
            have htop := hW.high
            rw [HSN.out] at hc2 hro2
            rw [hv2]
            have ck : W.cell? ⟨sg, sn0 * 6 + 5, none⟩ = some (.slice y.a2 nf y.c2) := (hc1.cell _).trans hc2
            have fk := hc1.free (sn0 * 6 + 5)
            have hgp : W.grownBy (W.setCell ⟨sg, sn0 * 6 + 5, none⟩ (.slice b2 (nf + 1) d2)) (some sg) := only_put' _ _
            have hw9 := hW.words.grown hgp (by intro e; injection e with e; exact (hc1.differ hW.words (by decide)) e.symm)
            have ho9 := hW.obj.grown hgp (by intro e; injection e with e; exact (hc1.differ hW.obj (by decide)) e.symm)
            have hN : ∀ uu, JFW w2 w5.heap.size ob sg wb wcur vs vm ss0 y nf ms ⟨n1, n2, n3, n4⟩ lo 3 (W.setCell ⟨sg, sn0 * 6 + 5, none⟩ (.slice b2 (nf + 1) d2)) (upd vals 2 uu) := fun uu => ⟨Nat.le_trans htop (by simp), hw9, ho9, fun h => absurd h (by decide), fun h => absurd h (by decide), fun h => absurd h (by decide), fun _ => ⟨b2, d2, hro2, hge⟩⟩
            clear hc1 hc2 hro2 hW hgp hw9 ho9
            unfold Oper.wp
            simp [go_sem, ck, fk]
            first | exact hN _ | exact ⟨undef, hN _⟩ | exact ⟨_, rfl, hN _⟩
          · intro W5 vals hJ
            obtain ⟨b2, d2, hro3, hge⟩ := hJ.fin rfl
            have HST6 := hidden (HST5.out.addF (by omega) ⟨HI1.out, HI2.out, HI3.out, HI4.out⟩ (Nat.le_trans hloX hJ.high) HLO.out.2.1 hge hro3)
            simp only [putAll, List.map_cons, List.map_nil, Job.val, Act.put, List.setIfInBounds_toArray, List.set_cons_succ, List.set_cons_zero]
            have HP : Hid (parseD ([], []) ((S.take (k + 1)).map numsOf) = some ((ss0 ++ [plusF y ⟨n1, n2, n3, n4⟩ b2 d2]).map Sp.s, ms)) := by
              show _ = _
              rw [HSTEP.out, HSX.out, List.map_append]
              rfl
            have HBY : Hid (∀ s ∈ (ss0 ++ [plusF y ⟨n1, n2, n3, n4⟩ b2 d2]).map Sp.s, ∀ x ∈ s.bytes, 0 ≤ x ∧ x < 256) := fun s hs => by
              rw [List.map_append] at hs
              rcases List.mem_append.1 hs with h1 | h1
              · exact hby.out s (by rw [List.map_append]; exact List.mem_append_left _ h1)
              · rw [List.mem_singleton.1 h1]
                exact hby.out y.s (by simp)
            clear hro3 hJ hJ0 HY1 HY2 HY3 HY4 HSX o0
            go_wp2_with fail
            go_roundw
            case rel => exact ⟨k + 1, _, _, _, ms, by go_num, by omega, HP, HST6.out, HBY⟩
            case measure => simp [intOf]; omega
        · have h5' : ((nw : Int) == 5) = false := by simp; omega
          have HF : Hid (rdD (S.map numsOf) = none) := HFAIL.out (by unfold stepW; dsimp only; rw [HX0.out, HNW.out, if_neg (fun h => absurd h.1 (by decide)), if_neg (fun h => h5 h.2.1), if_neg (fun h => absurd h.1 (by decide))])
          have hres5 := HRX.out w5 HB5.out
          have r0 : w5.cell? ⟨rb, 0, none⟩ = some (.slice none 0 0) := hres5.cell 0
          have r1 : w5.cell? ⟨rb, 1, none⟩ = some (.slice none 0 0) := hres5.cell 1
          have f0 := hres5.free 0
          have f1 := hres5.free 1
          clear hres5
          go_wp21
          refine bodyPost_ret (results_cell_row3 rfl _ _ rb 26 #[.slice none 0 0, .slice none 0 0] (0, 0) _ rfl HDF.out Tryz.underlying26 rfl (by kernel_rfl)) rfl ?_
          exact ⟨HDB.out, .inl ⟨HF.out, rfl⟩⟩
      have hb2 : (x0.toList == [102, 105, 120, 117, 112]) = false := by
        have h := str_ne e2
        rw [toList_data wFix] at h
        exact h
      by_cases e3 : x0 = wSym
      · subst e3
        by_cases h5 : nw = 5
        · subst h5
          obtain ⟨ma, mc, hvm⟩ := own_shape HST5.out.rol.ro.syms
          subst hvm
          have hml2 : ms.length ≤ 2000000 := by have := HST5.out.nm; omega
          have HSX : Hid (stepW (ss.map Sp.s, ms) ws = some (ss.map Sp.s, ms ++ [⟨x1, n2, n3, n4⟩])) := by
            show _ = _
            unfold stepW
            dsimp only
            rw [HX0.out, HNW.out, if_neg (fun h => absurd h.1 (by decide)), if_neg (fun h => absurd h.1 (by decide)), if_pos ⟨rfl, rfl⟩, HX1.out, HM2.out, HM3.out, HM4.out]
          have i1 : (1 : Int) < ((5 : Nat) : Int) := by decide
          have i2 : (2 : Int) < ((5 : Nat) : Int) := by decide
          have i3 : (3 : Int) < ((5 : Nat) : Int) := by decide
          have i4 : (4 : Int) < ((5 : Nat) : Int) := by decide
          obtain ⟨i1', hi1, hy0, hy1, hy2⟩ := info_parts Tryz.info_symbol
          have HQ1 : Hid (∀ W : World, Has W wb 9 wcur → W.cell? ⟨wb, 1, none⟩ = some (.string x1)) := fun W hW => by rw [hW.cell, HWC.out 1 (by omega), HX1.out]
          have HQ2 : Hid (∀ W : World, Has W wb 9 wcur → W.cell? ⟨wb, 2, none⟩ = some (.string x2)) := fun W hW => by rw [hW.cell, HWC.out 2 (by omega), HX2.out]
          have HQ3 : Hid (∀ W : World, Has W wb 9 wcur → W.cell? ⟨wb, 3, none⟩ = some (.string x3)) := fun W hW => by rw [hW.cell, HWC.out 3 (by omega), HX3.out]
          have HQ4 : Hid (∀ W : World, Has W wb 9 wcur → W.cell? ⟨wb, 4, none⟩ = some (.string x4)) := fun W hW => by rw [hW.cell, HWC.out 4 (by omega), HX4.out]
          have hJ0 : Hid (JYW w2 w5.heap.size wb wcur vs (.slice ma ms.length mc) ss ms ⟨x1, n2, n3, n4⟩ 0 w5.drew fun _ => undef) := ⟨HST5.out.rol.ro.drew, Nat.le_refl _, HWH.out⟩
          go_upto_region 19 with fail
          refine wp_region_stir (m := 3) (js := [.quiet (.pointer (some ⟨ob, 1, none⟩)) 3, .quiet (.slice ma ms.length mc) 1, .quiet (.slice (some ⟨wb, 0, none⟩) 5 cw) 3, .quiet (.pointer (some ⟨wb, 1, none⟩)) 3, .quiet (.string x1) 3, .quiet (.slice (some ⟨wb, 0, none⟩) 5 cw) 3, .quiet (.pointer (some ⟨wb, 2, none⟩)) 3, .quiet (.string x2) 3, .quiet (.int .i64 n2) 3, .quiet (.slice (some ⟨wb, 0, none⟩) 5 cw) 3, .quiet (.pointer (some ⟨wb, 3, none⟩)) 3, .quiet (.string x3) 3, .quiet (.int .i64 n3) 3, .quiet (.slice (some ⟨wb, 0, none⟩) 5 cw) 3, .quiet (.pointer (some ⟨wb, 4, none⟩)) 3, .quiet (.string x4) 3, .quiet (.int .i64 n4) 3, .quiet (.agg #[.string x1, .int .i64 n2, .int .i64 n3, .int .i64 n4]) 3, .chain 0, .chain 1, .quiet (.pointer (some ⟨ob, 1, none⟩)) 3, .chain 2]) (by kernel_rfl) (JYW w2 w5.heap.size wb wcur vs (.slice ma ms.length mc) ss ms ⟨x1, n2, n3, n4⟩) (by kernel_rfl) (by kernel_rfl) ⟨_, hJ0.out⟩ (fun vals => ?_) ?_
          · show SeqS _ _ _ _ _ _ _
            refine ⟨fun kk hkk W hW => ?_, ?_⟩
            · unfold Oper.wp
              simp [go_sem]
              try first | exact ⟨_, rfl, rfl⟩ | exact ⟨_, rfl, rfl, .inl rfl⟩ | exact .inl rfl
            simp only [Act.put, List.setIfInBounds_toArray, List.set_cons_succ, List.set_cons_zero]
            refine ⟨fun kk hkk W hW => ?_, ?_⟩
            · have q : W.cell? ⟨ob, 1, none⟩ = some (.slice ma ms.length mc) := by rw [← HOB.out]; exact (JY.obj hW.j hkk).cell 1
              unfold Oper.wp
              simp [go_sem, q]
              try first | exact ⟨_, rfl, rfl⟩ | exact ⟨_, rfl, rfl, .inl rfl⟩ | exact .inl rfl
            simp only [Act.put, List.setIfInBounds_toArray, List.set_cons_succ, List.set_cons_zero]
            iterate 2
              refine ⟨fun kk hkk W hW => ?_, ?_⟩
              · unfold Oper.wp
                simp [go_sem]
                try first | exact ⟨_, rfl, rfl⟩ | exact ⟨_, rfl, rfl, .inl rfl⟩ | exact .inl rfl
              simp only [Act.put, List.setIfInBounds_toArray, List.set_cons_succ, List.set_cons_zero]
            refine ⟨fun kk hkk W hW => ?_, ?_⟩
            · have q : W.cell? ⟨wb, 1, none⟩ = some (.string x1) := HQ1.out W hW.words
              unfold Oper.wp
              simp [go_sem, q]
              try first | exact ⟨_, rfl, rfl⟩ | exact ⟨_, rfl, rfl, .inl rfl⟩ | exact .inl rfl
            simp only [Act.put, List.setIfInBounds_toArray, List.set_cons_succ, List.set_cons_zero]
            iterate 2
              refine ⟨fun kk hkk W hW => ?_, ?_⟩
              · unfold Oper.wp
                simp [go_sem]
                try first | exact ⟨_, rfl, rfl⟩ | exact ⟨_, rfl, rfl, .inl rfl⟩ | exact .inl rfl
              simp only [Act.put, List.setIfInBounds_toArray, List.set_cons_succ, List.set_cons_zero]
            refine ⟨fun kk hkk W hW => ?_, ?_⟩
            · have q : W.cell? ⟨wb, 2, none⟩ = some (.string x2) := HQ2.out W hW.words
              unfold Oper.wp
              simp [go_sem, q]
              try first | exact ⟨_, rfl, rfl⟩ | exact ⟨_, rfl, rfl, .inl rfl⟩ | exact .inl rfl
            simp only [Act.put, List.setIfInBounds_toArray, List.set_cons_succ, List.set_cons_zero]
            refine ⟨fun kk hkk W hW => ?_, ?_⟩
            · unfold Oper.wp
              simp [go_sem]
              refine (HY2.out W).mono ?_
              rintro e W9 ⟨rfl, hb9⟩
              have hs9 := hW.stir hb9
              first | exact .inr hs9 | exact ⟨rfl, .inr hs9⟩ | exact ⟨rfl, rfl, .inr hs9⟩ | exact ⟨_, rfl, rfl, .inr hs9⟩
            simp only [Act.put, List.setIfInBounds_toArray, List.set_cons_succ, List.set_cons_zero]
            iterate 2
              refine ⟨fun kk hkk W hW => ?_, ?_⟩
              · unfold Oper.wp
                simp [go_sem]
                try first | exact ⟨_, rfl, rfl⟩ | exact ⟨_, rfl, rfl, .inl rfl⟩ | exact .inl rfl
              simp only [Act.put, List.setIfInBounds_toArray, List.set_cons_succ, List.set_cons_zero]
            refine ⟨fun kk hkk W hW => ?_, ?_⟩
            · have q : W.cell? ⟨wb, 3, none⟩ = some (.string x3) := HQ3.out W hW.words
              unfold Oper.wp
              simp [go_sem, q]
              try first | exact ⟨_, rfl, rfl⟩ | exact ⟨_, rfl, rfl, .inl rfl⟩ | exact .inl rfl
            simp only [Act.put, List.setIfInBounds_toArray, List.set_cons_succ, List.set_cons_zero]
            refine ⟨fun kk hkk W hW => ?_, ?_⟩
            · unfold Oper.wp
              simp [go_sem]
              refine (HY3.out W).mono ?_
              rintro e W9 ⟨rfl, hb9⟩
              have hs9 := hW.stir hb9
              first | exact .inr hs9 | exact ⟨rfl, .inr hs9⟩ | exact ⟨rfl, rfl, .inr hs9⟩ | exact ⟨_, rfl, rfl, .inr hs9⟩
            simp only [Act.put, List.setIfInBounds_toArray, List.set_cons_succ, List.set_cons_zero]
            iterate 2
              refine ⟨fun kk hkk W hW => ?_, ?_⟩
              · unfold Oper.wp
                simp [go_sem]
                try first | exact ⟨_, rfl, rfl⟩ | exact ⟨_, rfl, rfl, .inl rfl⟩ | exact .inl rfl
              simp only [Act.put, List.setIfInBounds_toArray, List.set_cons_succ, List.set_cons_zero]
            refine ⟨fun kk hkk W hW => ?_, ?_⟩
            · have q : W.cell? ⟨wb, 4, none⟩ = some (.string x4) := HQ4.out W hW.words
              unfold Oper.wp
              simp [go_sem, q]
              try first | exact ⟨_, rfl, rfl⟩ | exact ⟨_, rfl, rfl, .inl rfl⟩ | exact .inl rfl
            simp only [Act.put, List.setIfInBounds_toArray, List.set_cons_succ, List.set_cons_zero]
            refine ⟨fun kk hkk W hW => ?_, ?_⟩
            · unfold Oper.wp
              simp [go_sem]
              refine (HY4.out W).mono ?_
              rintro e W9 ⟨rfl, hb9⟩
              have hs9 := hW.stir hb9
              first | exact .inr hs9 | exact ⟨rfl, .inr hs9⟩ | exact ⟨rfl, rfl, .inr hs9⟩ | exact ⟨_, rfl, rfl, .inr hs9⟩
            simp only [Act.put, List.setIfInBounds_toArray, List.set_cons_succ, List.set_cons_zero]
            refine ⟨fun kk hkk W hW => ?_, ?_⟩
            · unfold Oper.wp
              simp [go_sem]
              try first | exact ⟨_, rfl, rfl⟩ | exact ⟨_, rfl, rfl, .inl rfl⟩ | exact .inl rfl
            simp only [Act.put, List.setIfInBounds_toArray, List.set_cons_succ, List.set_cons_zero]
            refine ⟨fun W hW => ?_, ?_⟩
            · have hW0 : RO w2 W vs (.slice ma ms.length mc) ss ms := hW.j
              have hN : JYW w2 w5.heap.size wb wcur vs (.slice ma ms.length mc) ss ms ⟨x1, n2, n3, n4⟩ 1 (W.alloc (.cells #[.string x1, .int .i64 n2, .int .i64 n3, .int .i64 n4] 58)) (upd vals 0 (.slice (some ⟨W.heap.size, 0, none⟩) 1 1)) := ⟨⟨hW0.alloc _, W.heap.size, rfl, Has.new _ _ _⟩, Nat.le_trans hW.high (by simp), hW.words.below ((Below.refl _ _).alloc (Nat.le_refl _) _) hW.words.lt⟩
              unfold Oper.wp
              simp [go_sem]
              first | exact hN | exact ⟨_, rfl, hN⟩
            simp only [Act.put, List.setIfInBounds_toArray, List.set_cons_succ, List.set_cons_zero]
            refine ⟨fun W hW => ?_, ?_⟩
            · obtain ⟨hW1, hb, hv, hh⟩ := hW.j
              have hwo := hW.words.other hW1.syms (by decide)
              refine wp_append_own W _ _ _ rfl (w2.heap.size + 1) 58 i1' (.agg #[.string ⟨#[]⟩, .int .i64 0, .int .i64 0, .int .i64 0]) 4 40 Tryz.underlying24 hi1 hy0 hy1 hy2 rfl (by decide) _ _ _ rfl hW1.syms ⟨hb, 0, none⟩ 1 1 [.string x1, .int .i64 n2, .int .i64 n3, .int .i64 n4] hv ?_ ?_ ?_ ?_ ?_ ?_ ?_
              · rfl
              · intro t u ht
                rw [addr_row, hh.cell t]
                simpa using ht
              · intro u hu
                simp at hu
                rcases hu with rfl | rfl | rfl | rfl <;> rfl
              · unfold maxLen; omega
              · omega
              · exact hW1.obj.lt
              · intro v' w' h2 h3 _
                obtain ⟨b2, d2, rfl⟩ := own_shape h2
                obtain ⟨q1, q2⟩ := hW1.appM (m := ⟨x1, n2, n3, n4⟩) h3 h2
                have hj : JY w2 vs (.slice ma ms.length mc) ss ms ⟨x1, n2, n3, n4⟩ 2 w' (upd vals 1 (.slice b2 (ms.length + 1) d2)) := ⟨b2, d2, rfl, hW1.below.grown h3 hW1.below.size (fun q hq => by have := (hW1.syms.lt q hq).1; omega), q1, q2⟩
                exact ⟨_, rfl, (⟨hj, Nat.le_trans hW.high h3.size, hW.words.grown h3 hwo⟩ : JYW w2 w5.heap.size wb wcur vs (.slice ma ms.length mc) ss ms ⟨x1, n2, n3, n4⟩ 2 w' (upd vals 1 (.slice b2 (ms.length + 1) d2)))⟩
            simp only [Act.put, List.setIfInBounds_toArray, List.set_cons_succ, List.set_cons_zero]
            refine ⟨fun kk hkk W hW => ?_, ?_⟩
            · unfold Oper.wp
              simp [go_sem]
              try first | exact ⟨_, rfl, rfl⟩ | exact ⟨_, rfl, rfl, .inl rfl⟩ | exact .inl rfl
            simp only [Act.put, List.setIfInBounds_toArray, List.set_cons_succ, List.set_cons_zero]
            refine ⟨fun W hW => ?_, trivial⟩
            obtain ⟨b2, d2, hv2, hbl2, q1, q2⟩ := hW.j
            have htop := hW.high
            rw [hv2]
            have ck : W.cell? ⟨ob, 1, none⟩ = some (.slice ma ms.length mc) := by rw [← HOB.out]; exact q1.cell 1
            have fk : W.frozen? ⟨ob, 1, none⟩ = false := by rw [← HOB.out]; exact q1.free 1
            have hw9 : Has (W.setCell ⟨ob, 1, none⟩ (.slice b2 (ms.length + 1) d2)) wb 9 wcur := by
              rw [← HOB.out]
              exact hW.words.grown (only_put' 1 _) (by intro e; injection e with e; exact (q1.differ hW.words (by decide)) e.symm)
            rw [HOB.out] at q2
            have hN : ∀ u, JYW w2 w5.heap.size wb wcur vs (.slice ma ms.length mc) ss ms ⟨x1, n2, n3, n4⟩ 3 (W.setCell ⟨ob, 1, none⟩ (.slice b2 (ms.length + 1) d2)) (upd vals 2 u) := fun u => ⟨⟨b2, d2, q2⟩, Nat.le_trans htop (by simp), hw9⟩
            clear q1 q2 hw9 hW
            unfold Oper.wp
            simp [go_sem, ck, fk]
            first | exact hN _ | exact ⟨undef, hN _⟩ | exact ⟨_, rfl, hN _⟩
          · intro W5 vals hJ
            obtain ⟨b2, d2, hro3⟩ := hJ.j
            have hro4 : RO w2 W5 vs (.slice b2 (ms ++ [(⟨x1, n2, n3, n4⟩ : Sm)]).length d2) ss (ms ++ [⟨x1, n2, n3, n4⟩]) := by rw [List.length_append]; exact hro3
            have HST6 := hidden (HST5.out.addM (m := ⟨x1, n2, n3, n4⟩) ⟨by show x1.size ≤ maxLen; unfold maxLen; omega, HI2.out, HI3.out, HI4.out⟩ hJ.high hro4)
            simp only [putAll, List.map_cons, List.map_nil, Job.val, Act.put, List.setIfInBounds_toArray, List.set_cons_succ, List.set_cons_zero]
            have HP : Hid (parseD ([], []) ((S.take (k + 1)).map numsOf) = some (ss.map Sp.s, ms ++ [⟨x1, n2, n3, n4⟩])) := by
              show _ = _
              rw [HSTEP.out, HSX.out]
            clear hro3 hro4 hJ hJ0 HY1 HY2 HY3 HY4 HSX
            go_wp2_with fail
            go_roundw
            case rel => exact ⟨k + 1, _, _, _, _, by go_num, by omega, HP, HST6.out, hby⟩
            case measure => simp [intOf]; omega
        · have h5' : ((nw : Int) == 5) = false := by simp; omega
          have HF : Hid (rdD (S.map numsOf) = none) := HFAIL.out (by unfold stepW; dsimp only; rw [HX0.out, HNW.out, if_neg (fun h => absurd h.1 (by decide)), if_neg (fun h => absurd h.1 (by decide)), if_neg (fun h => h5 h.2)])
          have hres5 := HRX.out w5 HB5.out
          have r0 : w5.cell? ⟨rb, 0, none⟩ = some (.slice none 0 0) := hres5.cell 0
          have r1 : w5.cell? ⟨rb, 1, none⟩ = some (.slice none 0 0) := hres5.cell 1
          have f0 := hres5.free 0
          have f1 := hres5.free 1
          clear hres5
          go_wp21
          refine bodyPost_ret (results_cell_row3 rfl _ _ rb 26 #[.slice none 0 0, .slice none 0 0] (0, 0) _ rfl HDF.out Tryz.underlying26 rfl (by kernel_rfl)) rfl ?_
          exact ⟨HDB.out, .inl ⟨HF.out, rfl⟩⟩
      have hb3 : (x0.toList == [115, 121, 109, 98, 111, 108]) = false := by
        have h := str_ne e3
        rw [toList_data wSym] at h
        exact h
      have HF : Hid (rdD (S.map numsOf) = none) := HFAIL.out (by unfold stepW; dsimp only; rw [HX0.out, HNW.out, if_neg (fun h => e1 h.1), if_neg (fun h => e2 h.1), if_neg (fun h => e3 h.1)])
      have hres5 := HRX.out w5 HB5.out
      have r0 : w5.cell? ⟨rb, 0, none⟩ = some (.slice none 0 0) := hres5.cell 0
      have r1 : w5.cell? ⟨rb, 1, none⟩ = some (.slice none 0 0) := hres5.cell 1
      have f0 := hres5.free 0
      have f1 := hres5.free 1
      clear hres5
      go_wp21
      refine bodyPost_ret (results_cell_row3 rfl _ _ rb 26 #[.slice none 0 0, .slice none 0 0] (0, 0) _ rfl HDF.out Tryz.underlying26 rfl (by kernel_rfl)) rfl ?_
      exact ⟨HDB.out, .inl ⟨HF.out, rfl⟩⟩
    · have hi : ¬ (k : Int) < (n : Int) := by omega
      have hp' := hp.out
      rw [List.take_of_length_le (by rw [← HN.out]; omega)] at hp'
      have HP := hidden hp'
      have HBY := hby
      have hro := hst.out.rol.ro
      obtain ⟨a1, d1, hvs⟩ := own_shape hro.secs.row
      obtain ⟨a2, d2, hvm⟩ := own_shape hro.syms
      subst hvs
      subst hvm
      have HRO := hidden hro
      have HST := hidden hst.out
      have hk2 : ss.length ≤ 2000000 ∧ ms.length ≤ 2000000 := ⟨by have := hst.out.ns; omega, by have := hst.out.nm; omega⟩
      have HDO := hidden (dumpTold_any wr wr.heap.size a1 a2 d1 d2 ss.length ms.length ss ms rfl rfl hro.secs.sects (syms_of_own hro.syms) (Nat.le_refl _) (by omega) (by omega) (fun y hy => (hst.out.fs y hy).lens) (fun m hm => (hst.out.fm m hm).name))
      have HOV := hidden (fun (W : World) (hW : Below wr.heap.size wr W) => objectValid'_any W W.heap.size a1 a2 d1 d2 ss.length ms.length ss ms rfl rfl (hro.only hW).secs.sects (syms_of_own (hro.only hW).syms) (Nat.le_refl _) (by omega) (by omega) (fun y hy => (hst.out.fs y hy).lens) (fun m hm => (hst.out.fm m hm).name))
      obtain ⟨D, hD⟩ : ∃ q, dumpX (ss.map Sp.s) ms = q := ⟨_, rfl⟩
      have HD := hidden hD
      have hdl : D.length ≤ 100 := by rw [← hD]; exact dumpX_short _ _
      obtain ⟨ok, hok⟩ : ∃ q, objOk (ss.map Sp.s) ms = q := ⟨_, rfl⟩
      have HOK := hidden hok
      rw [hD] at HDO
      rw [hok] at HOV
      obtain ⟨ns, hns⟩ : ∃ q, ss.length = q := ⟨_, rfl⟩
      obtain ⟨nm, hnm⟩ : ∃ q, ms.length = q := ⟨_, rfl⟩
      have hobj := hro.obj
      rw [HOB.out] at hobj
      have o0 : wr.cell? ⟨ob, 0, none⟩ = some (.slice a1 ns d1) := by rw [← hns]; exact hobj.cell 0
      have o1 : wr.cell? ⟨ob, 1, none⟩ = some (.slice a2 nm d2) := by rw [← hnm]; exact hobj.cell 1
      rw [hns, hnm] at HDO HOV
      have HNS := hidden hns
      have HNM := hidden hnm
      clear hro hp hp' hst hobj hns hnm hD hok
      go_wp2_with fail
      refine HDO.out.mono ?_
      rintro e w5 ⟨b5, c5, rfl, hv5, hb5⟩
      have hobj5 := (HRO.out.only hb5).obj
      rw [HOB.out] at hobj5
      have o0 : w5.cell? ⟨ob, 0, none⟩ = some (.slice a1 ns d1) := by rw [← HNS.out]; exact hobj5.cell 0
      have o1 : w5.cell? ⟨ob, 1, none⟩ = some (.slice a2 nm d2) := by rw [← HNM.out]; exact hobj5.cell 1
      have HV5 := hidden hv5
      have HB5 := hidden hb5
      clear hobj5 hv5 hb5 HDO
      go_wp2_with fail
      refine (HOV.out w5 HB5.out).mono ?_
      rintro e w6 ⟨rfl, hb6⟩
      have hb56 := HB5.out.trans (hb6.mono HB5.out.size)
      have HRO6 := hidden (HRO.out.only hb56)
      have HB6 := HBR.out.trans (hb56.mono HBR.out.size)
      have hres6 := HRX.out w6 HB6
      have HR6 := hidden hres6
      have HBW6 := hidden (HBX.out w6 HB6)
      have HVD := hidden (HV5.out.below hb6)
      have r0 : w6.cell? ⟨rb, 0, none⟩ = some (.slice none 0 0) := hres6.cell 0
      have r1 : w6.cell? ⟨rb, 1, none⟩ = some (.slice none 0 0) := hres6.cell 1
      have f0 := hres6.free 0
      have f1 := hres6.free 1
      clear HOV hres6 hb6 hb56 o0 o1
      rcases ok with _ | _
      · skip
        have HF : Hid (rdD (S.map numsOf) = none) := by show _ = _; rw [rdD_eq HP.out HBY.out]; exact if_neg (fun h => absurd (h.1.symm.trans HOK.out) (by decide))
        have HDF : Hid (Has ((w6.setCell ⟨rb, 0, none⟩ (.slice none 0 0)).setCell ⟨rb, 1, none⟩ (.slice none 0 0)) rb 26 #[.slice none 0 0, .slice none 0 0]) := (HR6.out.put 0 _).put 1 _
        have HDB : Hid (Below w.heap.size w ((w6.setCell ⟨rb, 0, none⟩ (.slice none 0 0)).setCell ⟨rb, 1, none⟩ (.slice none 0 0))) := (HBW6.out.setCell (p := ⟨rb, 0, none⟩) hwrb _).setCell (p := ⟨rb, 1, none⟩) hwrb _
        go_wp21
        refine bodyPost_ret (results_cell_row3 rfl _ _ rb 26 #[.slice none 0 0, .slice none 0 0] (0, 0) _ rfl HDF.out Tryz.underlying26 rfl (by kernel_rfl)) rfl ?_
        exact ⟨HDB.out, .inl ⟨HF.out, rfl⟩⟩
      by_cases hln : D.length = n
      · skip
        have hne : ((n : Int) != (n : Int)) = false := by simp
        obtain ⟨nd, hnd⟩ : ∃ q, D.length = q := ⟨_, rfl⟩
        have HND := hidden hnd
        rw [hnd] at hln hdl ⊢
        subst hln
        clear hnd hne
        go_wp2_with fail
        go_loopw [12] (fun i wl => ∃ (j q : Nat), i = .int .i64 j ∧ j ≤ nd ∧ Hid (∀ u, u < j → D[u]? = S[u]?) ∧ wl = w6.drewN q) (fun i _ => nd - (intOf i).toNat)
        case atStart => exact ⟨0, 0, rfl, Nat.zero_le _, (fun u hu => absurd hu (by omega)), rfl⟩
        case round =>
          obtain ⟨j, q, rfl, hj, hall, rfl⟩ := hrel
          have hdr : Below w6.heap.size w6 (w6.drewN q) := below_drewN (Below.refl _ _) q
          by_cases hjl : j < nd
          · have hji : (j : Int) < (nd : Int) := by omega
            have hjD : j < D.length := by rw [HND.out]; exact hjl
            have hjS : j < S.length := by rw [← HN.out]; exact hjl
            obtain ⟨b1, o1, rfl, k1⟩ := vals_row HVD.out (by omega)
            obtain ⟨b2, o2, rfl, k2⟩ := vals_row (HVX.out w6 HB6) (by omega)
            obtain ⟨dl, hdl2⟩ : ∃ z, D[j]? = some z := ⟨_, List.getElem?_eq_getElem hjD⟩
            obtain ⟨sl, hsl2⟩ : ∃ z, S[j]? = some z := ⟨_, List.getElem?_eq_getElem hjS⟩
            have m1 : w6.cell? ⟨b1, o1 + j, none⟩ = some (.string dl) := by rw [k1 j hjD, List.getD_eq_getElem?_getD, hdl2]; rfl
            have m2 : w6.cell? ⟨b2, o2 + j, none⟩ = some (.string sl) := by rw [k2 j hjS, List.getD_eq_getElem?_getD, hsl2]; rfl
            by_cases hds : dl = sl
            · subst hds
              have HALL : Hid (∀ u, u < j + 1 → D[u]? = S[u]?) := fun u hu => by
                rcases Nat.lt_succ_iff_lt_or_eq.1 hu with h | h
                · exact hall.out u h
                · rw [h, hdl2, hsl2]
              clear hdl2 hsl2 k1 k2 hjD hjS hdr
              go_wp2_with fail
              go_quiet (fail)
              go_wp2_with fail
              go_roundw
              case rel => exact ⟨j + 1, _, by go_num, by omega, HALL, rfl⟩
              case measure => simp [intOf]; omega
            · have hbe := str_ne hds
              have HF : Hid (rdD (S.map numsOf) = none) := by
                show _ = _
                rw [rdD_eq HP.out HBY.out]
                refine if_neg fun h => hds ?_
                have h2 := h.2
                rw [HD.out] at h2
                rw [h2, hsl2] at hdl2
                exact (Option.some.inj hdl2).symm
              clear hdl2 hsl2 k1 k2 hjD hjS
              go_wp2_with fail
              go_quiet (fail)
              have hdq : Below w6.heap.size w6 ((w6.drewN q).drewN nq) := below_drewN hdr nq
              obtain ⟨w7, hw7⟩ : ∃ z, (w6.drewN q).drewN nq = z := ⟨_, rfl⟩
              rw [hw7] at hdq ⊢
              have hres7 := HR6.out.below hdq HR6.out.lt
              have r0 : w7.cell? ⟨rb, 0, none⟩ = some (.slice none 0 0) := hres7.cell 0
              have r1 : w7.cell? ⟨rb, 1, none⟩ = some (.slice none 0 0) := hres7.cell 1
              have f0 := hres7.free 0
              have f1 := hres7.free 1
              have HDF : Hid (Has ((w7.setCell ⟨rb, 0, none⟩ (.slice none 0 0)).setCell ⟨rb, 1, none⟩ (.slice none 0 0)) rb 26 #[.slice none 0 0, .slice none 0 0]) := (hres7.put 0 _).put 1 _
              have HDB : Hid (Below w.heap.size w ((w7.setCell ⟨rb, 0, none⟩ (.slice none 0 0)).setCell ⟨rb, 1, none⟩ (.slice none 0 0))) := ((HBW6.out.trans (hdq.mono HBW6.out.size)).setCell (p := ⟨rb, 0, none⟩) hwrb _).setCell (p := ⟨rb, 1, none⟩) hwrb _
              clear hw7 hdq hres7 hdr
              go_wp21
              refine bodyPost_ret (results_cell_row3 rfl _ _ rb 26 #[.slice none 0 0, .slice none 0 0] (0, 0) _ rfl HDF.out Tryz.underlying26 rfl (by kernel_rfl)) rfl ?_
              exact ⟨HDB.out, .inl ⟨HF.out, rfl⟩⟩
          · have hji : ¬ (j : Int) < (nd : Int) := by omega
            have hDS : D = S := by
              apply List.ext_getElem?
              intro u
              by_cases hu : u < j
              · exact hall.out u hu
              · have h1 := HND.out
                have h2 := HN.out
                rw [List.getElem?_eq_none (by omega), List.getElem?_eq_none (by omega)]
            have HF : Hid (rdD (S.map numsOf) = some (ss.map Sp.s, ms)) := by show _ = _; rw [rdD_eq HP.out HBY.out]; exact if_pos ⟨HOK.out, by rw [HD.out, hDS]⟩
            obtain ⟨w7, hw7⟩ : ∃ z, w6.drewN q = z := ⟨_, rfl⟩
            rw [hw7] at hdr ⊢
            have HRO7 := hidden (HRO6.out.only hdr)
            have hres7 := HR6.out.below hdr HR6.out.lt
            have HR7 := hidden hres7
            have HBW7 := hidden (HBW6.out.trans (hdr.mono HBW6.out.size))
            have hobj7 := HRO7.out.obj
            rw [HOB.out] at hobj7
            have o0 : w7.cell? ⟨ob, 0, none⟩ = some (.slice a1 ns d1) := by rw [← HNS.out]; exact hobj7.cell 0
            have o1 : w7.cell? ⟨ob, 1, none⟩ = some (.slice a2 nm d2) := by rw [← HNM.out]; exact hobj7.cell 1
            have r0 : w7.cell? ⟨rb, 0, none⟩ = some (.slice none 0 0) := hres7.cell 0
            have r1 : w7.cell? ⟨rb, 1, none⟩ = some (.slice none 0 0) := hres7.cell 1
            have f0 := hres7.free 0
            have f1 := hres7.free 1
            have HC : Hid (Has ((w7.setCell ⟨rb, 0, none⟩ (.slice a1 ns d1)).setCell ⟨rb, 1, none⟩ (.slice a2 nm d2)) rb 26 #[.slice a1 ns d1, .slice a2 nm d2]) := (HR7.out.put 0 _).put 1 _
            have HG : Hid (Below w.heap.size w ((w7.setCell ⟨rb, 0, none⟩ (.slice a1 ns d1)).setCell ⟨rb, 1, none⟩ (.slice a2 nm d2))) := (HBW7.out.setCell (p := ⟨rb, 0, none⟩) hwrb _).setCell (p := ⟨rb, 1, none⟩) hwrb _
            have hg1 : w7.grownBy (w7.setCell ⟨rb, 0, none⟩ (.slice a1 ns d1)) (some rb) := only_put' 0 _
            have hg2 : (w7.setCell ⟨rb, 0, none⟩ (.slice a1 ns d1)).grownBy ((w7.setCell ⟨rb, 0, none⟩ (.slice a1 ns d1)).setCell ⟨rb, 1, none⟩ (.slice a2 nm d2)) (some rb) := only_put' 1 _
            have hgg := only_trans hg1 hg2
            have hse := HRO7.out.secs
            have hsy := HRO7.out.syms
            have HS7 : Hid (SR ((w7.setCell ⟨rb, 0, none⟩ (.slice a1 ns d1)).setCell ⟨rb, 1, none⟩ (.slice a2 nm d2)) w.heap.size (.slice a1 ns d1) ss) := by
              have := (hse.other HR7.out (by decide) (by decide) (by decide) hgg).lower (base' := w.heap.size) (by have := HWB.out; omega)
              rw [HNS.out] at this
              exact this
            have HY7 : Hid (((w7.setCell ⟨rb, 0, none⟩ (.slice a1 ns d1)).setCell ⟨rb, 1, none⟩ (.slice a2 nm d2)).ownsRow w.heap.size 58 4 (.slice a2 nm d2) ms.length (flatM ms)) := by
              have := row_lower (base' := w.heap.size) (hsy.kept hgg (row_apart hsy HR7.out (by decide))) (by have := HWB.out; omega)
              rw [HNM.out] at this ⊢
              exact this
            clear hse hsy hgg hg1 hg2 hw7 hdr hobj7 hres7 hall hDS
            go_wp21
            refine bodyPost_ret (results_cell_row3 rfl _ _ rb 26 #[.slice a1 ns d1, .slice a2 nm d2] (0, 0) _ rfl HC.out Tryz.underlying26 rfl (by kernel_rfl)) rfl ?_
            refine ⟨HG.out, .inr ⟨ss, ms, a1, a2, d1, d2, HF.out, ?_, ?_, ?_⟩⟩
            · rw [HNS.out, HNM.out]; rfl
            · rw [HNS.out]; exact HS7.out
            · rw [HNM.out]; have := HY7.out; rw [HNM.out] at this; exact this
      · have hne : ((D.length : Int) != (n : Int)) = true := by simp; omega
        have HF : Hid (rdD (S.map numsOf) = none) := by show _ = _; rw [rdD_eq HP.out HBY.out]; exact if_neg (fun h => hln (by rw [← HD.out, h.2, HN.out]))
        have HDF : Hid (Has ((w6.setCell ⟨rb, 0, none⟩ (.slice none 0 0)).setCell ⟨rb, 1, none⟩ (.slice none 0 0)) rb 26 #[.slice none 0 0, .slice none 0 0]) := (HR6.out.put 0 _).put 1 _
        have HDB : Hid (Below w.heap.size w ((w6.setCell ⟨rb, 0, none⟩ (.slice none 0 0)).setCell ⟨rb, 1, none⟩ (.slice none 0 0))) := (HBW6.out.setCell (p := ⟨rb, 0, none⟩) hwrb _).setCell (p := ⟨rb, 1, none⟩) hwrb _
        go_wp21
        refine bodyPost_ret (results_cell_row3 rfl _ _ rb 26 #[.slice none 0 0, .slice none 0 0] (0, 0) _ rfl HDF.out Tryz.underlying26 rfl (by kernel_rfl)) rfl ?_
        exact ⟨HDB.out, .inl ⟨HF.out, rfl⟩⟩
end Go.Proofs.YtpfombelhajmlaaGreatDoor

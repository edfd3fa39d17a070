/-
  impl.DumpObject.
-/
import Derived.Test.YtdmdjlnpbmiadaaDoorDmpK
import Derived.Test.YtdmdjlnpbmiadaaDoorLawD3
namespace Go.Proofs.YtdmdjlnpbmiadaaDoor
open Go.RowKit

theorem dbLies : liesAt Tryd.prog Tryd.prog.depth 59 (3 / Tryd.prog.cellsOf 59) 1 57 1 = true := by kernel_rfl
/-- The lines of the first sections. -/
def linesTo (l : List Sp) (k : Nat) : List ByteArray := ((l.take k).flatMap fun y => secT y.s :: y.s.fixs.map fixT).map strOfNums
theorem linesTo_snoc {l : List Sp} {k : Nat} {y : Sp} (h : l[k]? = some y) : linesTo l (k + 1) = linesTo l k ++ [strOfNums (secT y.s)] ++ y.s.fixs.map fun f => strOfNums (fixT f) := by
  unfold linesTo
  rw [List.take_add_one, h, List.flatMap_append, List.map_append]
  simp
theorem linesTo_all (l : List Sp) (ms : List Sm) (h : objOk (l.map Sp.s) ms = true) : dumpX (l.map Sp.s) ms = linesTo l l.length ++ ms.map fun m => strOfNums (symT m) := by
  unfold dumpX linesTo dumpL
  rw [if_pos h, List.take_length, List.map_append]
  congr 1
  · rw [List.flatMap_map]
  · rw [List.map_map]; rfl
set_option maxRecDepth 100000 in
set_option maxHeartbeats 4000000 in
theorem dumpObject_any (w : World) (B : Nat) (a1 a2 : Option Addr) (c1 c2 n m : Nat) (l : List Sp) (ms : List Sm) (hn : n = l.length) (hm : m = ms.length) (hT : Tabs w) (h1 : Sects w B a1 l) (h2 : Syms w B a2 ms) (hB : B ≤ w.heap.size) (hlen : n ≤ 9223372036854775807) (hlem : m ≤ 9223372036854775807)
    (hl : ∀ y ∈ l, y.s.fits) (hs : ∀ x ∈ ms, x.fits) :
    Calls Tryd.prog 7 #[.agg #[.slice a1 n c1, .slice a2 m c2]] w fun e w' => ∃ v, e = .returned v ∧ w'.ownsRow w.heap.size 9 1 v (dumpX (l.map Sp.s) ms).length ((dumpX (l.map Sp.s) ms).map Value.string) ∧ Below w.heap.size w w' := by
  obtain ⟨ok, hok⟩ : ∃ ok, objOk (l.map Sp.s) ms = ok := ⟨_, rfl⟩
  have HOK := hidden hok
  obtain ⟨X, hX⟩ : ∃ X, w.alloc (.cells #[.slice a1 n c1, .slice a2 m c2] 32) = X := ⟨_, rfl⟩
  obtain ⟨bx, hbx⟩ : ∃ bx, w.heap.size = bx := ⟨_, rfl⟩
  have hx : Has X bx 32 #[.slice a1 n c1, .slice a2 m c2] := by rw [← hX, ← hbx]; exact Has.new _ _ _
  have hbX : Below w.heap.size w X := by rw [← hX]; exact alloc_below _ _
  have HOB : Hid (∀ W, Below w.heap.size w W → Calls Tryd.prog 21 #[.agg #[.slice a1 n c1, .slice a2 m c2]] W fun e w' => e = .returned (.bool ok) ∧ Below W.heap.size W w') := fun W hb => by
    have := objectValid_any W B a1 a2 c1 c2 n m l ms hn hm (h1.below (hb.mono hB)) (h2.below (hb.mono hB)) (Nat.le_trans hB hb.size) hlen hlem hl hs
    rwa [hok] at this
  have HH1 := hidden (fun (W : World) (hb : Below w.heap.size w W) => And.intro (h1.below (hb.mono hB)) (h2.below (hb.mono hB)))
  have HBX := hidden hbX
  have x0 : X.cell? ⟨bx, 0, none⟩ = some (.slice a1 n c1) := hx.cell 0
  have x1 : X.cell? ⟨bx, 1, none⟩ = some (.slice a2 m c2) := hx.cell 1
  have HX := hidden hx
  have HN := hidden hn
  have HM := hidden hm
  have HFL := hidden hl
  have HFS := hidden hs
  have HT := hidden hT
  have HBX0 := hidden hbx
  have HBB := hidden hB
  clear hx hbX h1 h2 hn hm hok hl hs hT hB
  go_enter Tryd.func7, Tryd.ntmps7
  go_upto_region 1 with fail
  clear hX hbx
  have HV := hidden (HOB.out X HBX.out)
  clear HOB
  go_wp2_with fail
  refine HV.out.mono ?_
  clear HV
  rintro e w1 ⟨rfl, hb1⟩
  have HB1 := hidden (HBX.out.trans (hb1.mono HBX.out.size))
  have HX1 := hidden (HX.out.below hb1 HX.out.lt)
  clear hb1 x0 x1 HX
  rcases ok with _ | _
  · have HD : Hid (dumpX (l.map Sp.s) ms = []) := by show _ = _; unfold dumpX; rw [HOK.out]; rfl
    go_wp2_with fail
    go_ret
    rw [HD.out]
    exact ⟨_, rfl, World.ownsRow_nil _ _ _ _, HB1.out⟩
  have HTOLD := hidden (objOk_told HOK.out)
  have hn8 : n ≤ 8 := by rw [HN.out]; exact HTOLD.out.secs
  have hm12 : m ≤ 12 := by rw [HM.out]; exact HTOLD.out.syms
  obtain ⟨p, hp⟩ : ∃ p, w1.heap.size = p := ⟨_, rfl⟩
  obtain ⟨w2, hw2⟩ : ∃ q, w1.alloc (.cells #[.slice none 0 0, .pointer none, .slice none 0 0] 59) = q := ⟨_, rfl⟩
  have hb2 : Below w1.heap.size w1 w2 := by rw [← hw2]; exact alloc_below _ _
  have hD2 : Hid (DBW w2 p p [] [] w2) := by
    have hh : Has w2 p 59 #[.slice none 0 0, .pointer none, .slice none 0 0] := by rw [← hw2, ← hp]; exact Has.new _ _ _
    have hT1 := HT.out.below HB1.out HT.out.lt
    have hT2 := hT1.below hb2 hT1.lt
    exact ⟨⟨_, ⟨hh, Nat.le_refl _, ⟨_, rfl, .inl rfl⟩, ⟨_, rfl, World.ownsRow_nil _ _ _ _, fun _ => rfl⟩, dbLies, by decide, fun x hx => absurd hx (by simp)⟩, rfl, ⟨_, rfl, World.ownsRow_nil _ _ _ _⟩, hT2, by rw [← hp]; exact hT1.lt⟩, Below.refl _ _, fun _ _ _ _ _ _ h => h⟩
  have HWP : Hid (w.heap.size ≤ p) := by show _ ≤ _; rw [← hp]; exact HB1.out.size
  have HB2 := hidden (HB1.out.trans (hb2.mono HB1.out.size))
  have hx2 := HX1.out.below hb2 HX1.out.lt
  have x0 : w2.cell? ⟨bx, 0, none⟩ = some (.slice a1 n c1) := hx2.cell 0
  have HX2 := hidden hx2
  have HXP : Hid (bx < p) := by show _ < _; rw [← hp]; exact HX1.out.lt
  clear hb2 hx2
  go_upto_region 4 with fail
  clear hp hw2
  go_wp2_with fail
  go_loopw [16] (fun i wr => ∃ k : Nat, i = .int .i64 k ∧ k ≤ n ∧ (linesTo l k).length ≤ 7 * k ∧ Hid (DBW w2 p p (linesTo l k) [] wr)) (fun i _ => n - (intOf i).toNat)
  case atStart => exact ⟨0, rfl, Nat.zero_le _, by simp [linesTo], hD2.out⟩
  case round =>
    obtain ⟨k, rfl, hk, hS7, hd⟩ := hrel
    clear x0 hD2
    have HBR := hidden (HB2.out.trans (hd.out.below.mono HWP.out))
    by_cases hlt : k < n
    · have hi : (k : Int) < (n : Int) := by omega
      have hkl : k < l.length := by rw [← HN.out]; exact hlt
      obtain ⟨b, off, rfl, hbB, hpp⟩ := (HH1.out wr HBR.out).1.at_ hkl
      obtain ⟨y, hy⟩ : ∃ y, l[k] = y := ⟨_, rfl⟩
      rw [hy] at hpp
      obtain ⟨p0, p1, p2, p3, p4, p5⟩ := hpp
      have hym : y ∈ l := by rw [← hy]; exact List.getElem_mem hkl
      have HYM := hidden hym
      have HSN := hidden (linesTo_snoc (l := l) (k := k) (y := y) (by rw [List.getElem?_eq_getElem hkl, hy]))
      obtain ⟨hno, hy48, hy6, hlg0, hlg1, -⟩ := sect_parts (HTOLD.out.sec y hym)
      have hns := ((nameOk_iff _).1 hno).1.2
      rw [Array.length_toList] at hns
      change y.s.name.size ≤ 8 at hns
      obtain ⟨S, hS⟩ : ∃ S, linesTo l k = S := ⟨_, rfl⟩
      rw [hS] at hS7 hd HSN
      obtain ⟨w3, hw3⟩ : ∃ q, wr.alloc (.cells #[.string y.s.name, .int .i64 y.s.kind, .int .i64 y.s.align, .slice y.a1 y.s.bytes.length y.c1, .int .i64 y.s.size, .slice y.a2 y.s.fixs.length y.c2] 45) = q := ⟨_, rfl⟩
      obtain ⟨sb, hsb⟩ : ∃ q, wr.heap.size = q := ⟨_, rfl⟩
      have hb3 : Below wr.heap.size wr w3 := by rw [← hw3]; exact alloc_below _ _
      have hx3 : Has w3 sb 45 #[.string y.s.name, .int .i64 y.s.kind, .int .i64 y.s.align, .slice y.a1 y.s.bytes.length y.c1, .int .i64 y.s.size, .slice y.a2 y.s.fixs.length y.c2] := by rw [← hw3, ← hsb]; exact Has.new _ _ _
      obtain ⟨cs, hdb⟩ := hd.out.db
      have HD3 := hidden (hdb.only hb3)
      have HW3 := hidden (hd.out.trans (DBW.only hdb hb3))
      have HB3 := hidden (HB2.out.trans (HW3.out.below.mono HWP.out))
      have HSP : Hid (sb ≠ p) := hx3.differ HD3.out.sb.has (by decide)
      have hsec := (HH1.out w3 HB3.out).1
      have hag : y.agg = .agg #[.string y.s.name, .int .i64 y.s.kind, .int .i64 y.s.align, .slice y.a1 y.s.bytes.length y.c1, .int .i64 y.s.size, .slice y.a2 y.s.fixs.length y.c2] := rfl
      have HPS := hidden (putSection_any w3 B p p S cs HD3.out (by have := HBB.out; have := HWP.out; omega) (by omega) y (hsec.bytes y hym) (hsec.fixs y hym) (HFL.out y hym) (by omega) (by omega) ⟨by omega, by omega⟩)
      rw [hag] at HPS
      have q0 : w3.cell? ⟨sb, 0, none⟩ = some (.string y.s.name) := hx3.cell 0
      have q1 : w3.cell? ⟨sb, 1, none⟩ = some (.int .i64 y.s.kind) := hx3.cell 1
      have q2 : w3.cell? ⟨sb, 2, none⟩ = some (.int .i64 y.s.align) := hx3.cell 2
      have q3 : w3.cell? ⟨sb, 3, none⟩ = some (.slice y.a1 y.s.bytes.length y.c1) := hx3.cell 3
      have q4 : w3.cell? ⟨sb, 4, none⟩ = some (.int .i64 y.s.size) := hx3.cell 4
      have q5 : w3.cell? ⟨sb, 5, none⟩ = some (.slice y.a2 y.s.fixs.length y.c2) := hx3.cell 5
      have HX3 := hidden hx3
      have HY6 := hidden hy6
      clear hy hkl hym hno hS hb3 hx3 hdb hd hsec hag hy48 hlg0 hlg1 hns
      go_upto_region 7 with fail
      try rw [hw3]
      try rw [hsb]
      clear hw3 hsb p0 p1 p2 p3 p4 p5
      go_wp2_with fail
      refine HPS.out.mono ?_
      rintro e w4 ⟨rfl, hw4⟩
      have HW4 := hidden (HW3.out.trans hw4)
      have hx4 := hw4.kept sb _ _ (by decide) (by decide) HSP.out HX3.out
      obtain ⟨nf, hnf⟩ : ∃ q, y.s.fixs.length = q := ⟨_, rfl⟩
      have q5' : w4.cell? ⟨sb, 5, none⟩ = some (.slice y.a2 nf y.c2) := (hx4.cell 5).trans (by rw [← hnf]; rfl)
      have HNF := hidden hnf
      have hnf6 : nf ≤ 6 := by rw [← hnf]; exact HY6.out
      clear HPS hw4 hx4 q0 q1 q2 q3 q4 q5 HW3 HX3 HD3 hnf
      go_wp2_with fail
      go_loopw [25] (fun i wq => ∃ j : Nat, i = .int .i64 j ∧ j ≤ nf ∧ Hid (DBW w2 p p (S ++ [strOfNums (secT y.s)] ++ (y.s.fixs.take j).map fun f => strOfNums (fixT f)) [] wq)) (fun i _ => nf - (intOf i).toNat)
      case atStart => exact ⟨0, rfl, Nat.zero_le _, by rw [List.take_zero, List.map_nil, List.append_nil]; exact HW4.out⟩
      case round =>
        clear q5'
        clear HW4
        obtain ⟨j, rfl, hj, hd⟩ := hrel
        by_cases hjlt : j < nf
        · have hji : (j : Int) < (nf : Int) := by omega
          have hjl : j < y.s.fixs.length := by rw [HNF.out]; exact hjlt
          have HBQ := hidden (HB2.out.trans (hd.out.below.mono HWP.out))
          obtain ⟨b2, off2, ha2, _, r0, r1, r2, r3⟩ := ((HH1.out wr HBQ.out).1.fixs y HYM.out).at_ hjl
          rw [ha2]
          obtain ⟨f, hf⟩ : ∃ f, y.s.fixs[j] = f := ⟨_, rfl⟩
          rw [hf] at r0 r1 r2 r3
          have hfm : f ∈ y.s.fixs := by rw [← hf]; exact List.getElem_mem hjl
          have hf64 := (HFL.out y HYM.out).fixs f hfm
          have HQN : Hid (S ++ [strOfNums (secT y.s)] ++ ((y.s.fixs.take (j + 1)).map fun f => strOfNums (fixT f)) = (S ++ [strOfNums (secT y.s)] ++ (y.s.fixs.take j).map fun f => strOfNums (fixT f)) ++ [strOfNums (fixT f)]) := by
            show _ = _
            rw [List.take_add_one, List.getElem?_eq_getElem hjl, hf, List.map_append]
            simp
          obtain ⟨Q, hQ⟩ : ∃ Q, (S ++ [strOfNums (secT y.s)] ++ (y.s.fixs.take j).map fun f => strOfNums (fixT f)) = Q := ⟨_, rfl⟩
          have hQl : Q.length ≤ 1000 := by
            rw [← hQ]
            simp only [List.length_append, List.length_map, List.length_take, List.length_singleton]
            omega
          rw [hQ] at hd HQN
          obtain ⟨w5, hw5⟩ : ∃ q, wr.alloc (.cells #[.int .i64 f.pl, .int .i64 f.kind, .int .i64 f.to, .int .i64 f.add] 50) = q := ⟨_, rfl⟩
          obtain ⟨fb, hfb⟩ : ∃ q, wr.heap.size = q := ⟨_, rfl⟩
          have hb5 : Below wr.heap.size wr w5 := by rw [← hw5]; exact alloc_below _ _
          have hx5 : Has w5 fb 50 #[.int .i64 f.pl, .int .i64 f.kind, .int .i64 f.to, .int .i64 f.add] := by rw [← hw5, ← hfb]; exact Has.new _ _ _
          obtain ⟨cs5, hdb⟩ := hd.out.db
          have HD5 := hidden (hdb.only hb5)
          have HW5 := hidden (hd.out.trans (DBW.only hdb hb5))
          have hag : f.agg = .agg #[.int .i64 f.pl, .int .i64 f.kind, .int .i64 f.to, .int .i64 f.add] := rfl
          have HPF := hidden (putFixup_any w5 p p Q cs5 HD5.out (by omega) f hf64)
          rw [hag] at HPF
          have q0 : w5.cell? ⟨fb, 0, none⟩ = some (.int .i64 f.pl) := hx5.cell 0
          have q1 : w5.cell? ⟨fb, 1, none⟩ = some (.int .i64 f.kind) := hx5.cell 1
          have q2 : w5.cell? ⟨fb, 2, none⟩ = some (.int .i64 f.to) := hx5.cell 2
          have q3 : w5.cell? ⟨fb, 3, none⟩ = some (.int .i64 f.add) := hx5.cell 3
          clear hf hfm hjl hQ hb5 hx5 hdb hd hag hf64 HD5
          go_upto_region 11 with fail
          try rw [hw5]
          try rw [hfb]
          clear hw5 hfb r0 r1 r2 r3 ha2
          go_wp2_with fail
          refine HPF.out.mono ?_
          rintro e w6 ⟨rfl, hw6⟩
          have HW6 : Hid (DBW w2 p p (S ++ [strOfNums (secT y.s)] ++ ((y.s.fixs.take (j + 1)).map fun f => strOfNums (fixT f))) [] w6) := by show DBW _ _ _ _ _ _; rw [HQN.out]; exact HW5.out.trans hw6
          clear HPF hw6 HW5 q0 q1 q2 q3 HQN
          go_wp2_with fail
          go_roundw
          case rel => exact ⟨j + 1, by go_num, by omega, HW6⟩
          case measure => simp [intOf]; omega
        · have hji : ¬ (j : Int) < (nf : Int) := by omega
          have HDK : Hid (DBW w2 p p (linesTo l (k + 1)) [] wr) := by
            have := hd.out
            rw [List.take_of_length_le (by rw [HNF.out]; omega)] at this
            show DBW _ _ _ _ _ _
            rw [HSN.out]
            exact this
          have hS8 : (linesTo l (k + 1)).length ≤ 7 * (k + 1) := by
            rw [HSN.out]
            simp only [List.length_append, List.length_map, List.length_singleton]
            have := HNF.out
            omega
          have HS8 := hidden hS8
          clear hd hS8 HSN
          go_wp2_with fail
          go_roundw
          case rel => exact ⟨k + 1, by go_num, by omega, HS8.out, HDK⟩
          case measure => simp [intOf]; omega
    · have hi : ¬ (k : Int) < (n : Int) := by omega
      have hkn : k = l.length := by rw [← HN.out]; omega
      have HDALL := hidden (linesTo_all l ms HOK.out)
      rw [hkn] at hd hS7
      obtain ⟨S, hS⟩ : ∃ S, linesTo l l.length = S := ⟨_, rfl⟩
      have hSl : S.length ≤ 100 := by rw [← hS]; have := HN.out; omega
      rw [hS] at hd HDALL
      have hxr := hd.out.below.cell (p := ⟨bx, 1, none⟩) (by show bx < p; exact HXP.out)
      have x1 : wr.cell? ⟨bx, 1, none⟩ = some (.slice a2 m c2) := hxr.trans (HX2.out.cell 1)
      have HD0 := hidden hd.out
      clear hkn hS hS7 hd hxr
      go_wp2_with fail
      go_loopw [36] (fun i wq => ∃ j : Nat, i = .int .i64 j ∧ j ≤ m ∧ Hid (DBW w2 p p (S ++ (ms.take j).map fun s => strOfNums (symT s)) [] wq)) (fun i _ => m - (intOf i).toNat)
      case atStart => exact ⟨0, rfl, Nat.zero_le _, by rw [List.take_zero, List.map_nil, List.append_nil]; exact HD0.out⟩
      case round =>
        clear x1
        clear HD0
        obtain ⟨j, rfl, hj, hd⟩ := hrel
        by_cases hjlt : j < m
        · have hji : (j : Int) < (m : Int) := by omega
          have hjl : j < ms.length := by rw [← HM.out]; exact hjlt
          have HBQ := hidden (HB2.out.trans (hd.out.below.mono HWP.out))
          obtain ⟨b2, off2, ha2, _, r0, r1, r2, r3⟩ := (HH1.out wr HBQ.out).2.at_ hjl
          rw [ha2]
          obtain ⟨f, hf⟩ : ∃ f, ms[j] = f := ⟨_, rfl⟩
          rw [hf] at r0 r1 r2 r3
          have hfm : f ∈ ms := by rw [← hf]; exact List.getElem_mem hjl
          have hf64 := HFS.out f hfm
          have hnm : f.name.size ≤ 8 := by
            have h0 := HTOLD.out.sym f hfm
            unfold symOk at h0
            simp only [Bool.and_eq_true] at h0
            have h1 := ((nameOk_iff _).1 h0.1.1).1.2
            rw [Array.length_toList] at h1
            exact h1
          have HQN : Hid (S ++ ((ms.take (j + 1)).map fun s => strOfNums (symT s)) = (S ++ (ms.take j).map fun s => strOfNums (symT s)) ++ [strOfNums (symT f)]) := by
            show _ = _
            rw [List.take_add_one, List.getElem?_eq_getElem hjl, hf, List.map_append]
            simp
          obtain ⟨Q, hQ⟩ : ∃ Q, (S ++ (ms.take j).map fun s => strOfNums (symT s)) = Q := ⟨_, rfl⟩
          have hQl : Q.length ≤ 1000 := by
            rw [← hQ]
            simp only [List.length_append, List.length_map, List.length_take]
            omega
          rw [hQ] at hd HQN
          obtain ⟨w5, hw5⟩ : ∃ q, wr.alloc (.cells #[.string f.name, .int .i64 f.bind, .int .i64 f.loc, .int .i64 f.value] 52) = q := ⟨_, rfl⟩
          obtain ⟨fb, hfb⟩ : ∃ q, wr.heap.size = q := ⟨_, rfl⟩
          have hb5 : Below wr.heap.size wr w5 := by rw [← hw5]; exact alloc_below _ _
          have hx5 : Has w5 fb 52 #[.string f.name, .int .i64 f.bind, .int .i64 f.loc, .int .i64 f.value] := by rw [← hw5, ← hfb]; exact Has.new _ _ _
          obtain ⟨cs5, hdb⟩ := hd.out.db
          have HD5 := hidden (hdb.only hb5)
          have HW5 := hidden (hd.out.trans (DBW.only hdb hb5))
          have hag : f.agg = .agg #[.string f.name, .int .i64 f.bind, .int .i64 f.loc, .int .i64 f.value] := rfl
          have HPF := hidden (putSymbol_any w5 p p Q cs5 HD5.out (by omega) f (by omega) ⟨hf64.bind, hf64.loc, hf64.value⟩)
          rw [hag] at HPF
          have q0 : w5.cell? ⟨fb, 0, none⟩ = some (.string f.name) := hx5.cell 0
          have q1 : w5.cell? ⟨fb, 1, none⟩ = some (.int .i64 f.bind) := hx5.cell 1
          have q2 : w5.cell? ⟨fb, 2, none⟩ = some (.int .i64 f.loc) := hx5.cell 2
          have q3 : w5.cell? ⟨fb, 3, none⟩ = some (.int .i64 f.value) := hx5.cell 3
          clear hf hfm hjl hQ hb5 hx5 hdb hd hag hf64 HD5
          go_upto_region 17 with fail
          try rw [hw5]
          try rw [hfb]
          clear hw5 hfb r0 r1 r2 r3 ha2
          go_wp2_with fail
          refine HPF.out.mono ?_
          rintro e w6 ⟨rfl, hw6⟩
          have HW6 : Hid (DBW w2 p p (S ++ ((ms.take (j + 1)).map fun s => strOfNums (symT s))) [] w6) := by show DBW _ _ _ _ _ _; rw [HQN.out]; exact HW5.out.trans hw6
          clear HPF hw6 HW5 q0 q1 q2 q3 HQN
          go_wp2_with fail
          go_roundw
          case rel => exact ⟨j + 1, by go_num, by omega, HW6⟩
          case measure => simp [intOf]; omega
        · have hji : ¬ (j : Int) < (m : Int) := by omega
          have hd' := hd.out
          rw [List.take_of_length_le (by rw [← HM.out]; omega), ← HDALL.out] at hd'
          obtain ⟨cs, hdb⟩ := hd'.db
          obtain ⟨v, hv0, hrow⟩ := hdb.row
          have c0 : wr.cell? ⟨p, 0, none⟩ = some v := (hdb.sb.has.cell 0).trans hv0
          have HR : Hid (wr.ownsRow w.heap.size 9 1 v (dumpX (l.map Sp.s) ms).length ((dumpX (l.map Sp.s) ms).map Value.string)) := own_low hrow HWP.out
          have HBF := hidden (HB2.out.trans (hd'.below.mono HWP.out))
          clear hd hd' hdb hv0 hrow HDALL
          go_wp2_with fail
          go_ret
          exact ⟨v, rfl, HR.out, HBF.out⟩
end Go.Proofs.YtdmdjlnpbmiadaaDoor

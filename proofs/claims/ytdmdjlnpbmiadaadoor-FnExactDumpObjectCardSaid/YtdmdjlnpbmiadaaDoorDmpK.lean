/-
  impl.dumpBuilder: the lines of fixups, symbols and sections.
-/
import Derived.Test.YtdmdjlnpbmiadaaDoorDmpJ
import Derived.Test.YtdmdjlnpbmiadaaDoorHexI
import Derived.Test.YtdmdjlnpbmiadaaDoorObI
namespace Go.Proofs.YtdmdjlnpbmiadaaDoor
open Go.RowKit

theorem joinW_ne : ∀ (S : List ByteArray) {L : List Int}, L ≠ [] → joinW L S = L ++ S.flatMap fun s => 32 :: numsOf s
  | [], L, _ => by simp [joinW]
  | s :: r, L, h => by
    show joinW (addW L s) r = _
    rw [joinW_ne r (addW_ne h s), addW_next h, List.flatMap_cons, List.append_assoc]
theorem joinW_first (s : ByteArray) (r : List ByteArray) (hs : numsOf s ≠ []) : joinW [] (s :: r) = numsOf s ++ r.flatMap fun s => 32 :: numsOf s := by
  show joinW (addW [] s) r = _
  rw [addW_first, joinW_ne r hs]
theorem joinW_app (L : List Int) (S R : List ByteArray) : joinW (joinW L S) R = joinW L (S ++ R) := by
  unfold joinW
  rw [List.foldl_append]
theorem fix_line (f : Fx) : joinW (joinW [] [⟨#[102, 105, 120, 117, 112]⟩]) ([f.pl, f.kind, f.to, f.add].map numT) = fixT f := by
  have h : numsOf (⟨#[102, 105, 120, 117, 112]⟩ : ByteArray) = tFix := by decide
  rw [joinW_app, List.cons_append, joinW_first _ _ (by rw [h]; decide), h]
  simp [fixT, numsOf_numT]
theorem sym_line (m : Sm) : joinW (joinW [] [⟨#[115, 121, 109, 98, 111, 108]⟩, m.name]) ([m.bind, m.loc, m.value].map numT) = symT m := by
  have h : numsOf (⟨#[115, 121, 109, 98, 111, 108]⟩ : ByteArray) = tSym := by decide
  rw [joinW_app, List.cons_append, joinW_first _ _ (by rw [h]; decide), h]
  simp [symT, numsOf_numT]
theorem sec_line (s : Sx) : joinW (joinW [] [⟨#[115, 101, 99, 116, 105, 111, 110]⟩, s.name]) ([s.kind, s.align, s.long].map numT) = tSec ++ 32 :: (numsOf s.name ++ 32 :: (numL s.kind ++ 32 :: (numL s.align ++ 32 :: numL s.long))) := by
  have h : numsOf (⟨#[115, 101, 99, 116, 105, 111, 110]⟩ : ByteArray) = tSec := by decide
  rw [joinW_app, List.cons_append, joinW_first _ _ (by rw [h]; decide), h]
  simp [numsOf_numT]
theorem alloc_below (W : World) (o : Obj) : Below W.heap.size W (W.alloc o) := (Below.refl _ _).alloc (Nat.le_refl _) o
set_option maxRecDepth 100000 in
set_option maxHeartbeats 2000000 in
theorem putFixup_any (W : World) (B p : Nat) (S : List ByteArray) (cs0 : Array Value) (h : DB W B p S [] cs0) (hS : S.length ≤ 1000000) (f : Fx) (hf : I64 f.pl ∧ I64 f.kind ∧ I64 f.to ∧ I64 f.add) :
    Calls Tryd.prog 23 #[.pointer (some ⟨p, 0, none⟩), f.agg] W fun e w' => e = .returned (.tuple #[]) ∧ DBW W B p (S ++ [strOfNums (fixT f)]) [] w' := by
  have HT := hidden (fix_line f)
  obtain ⟨pl, kd, tg, ad⟩ := f
  unfold Fx.agg
  simp only at HT hf ⊢
  obtain ⟨X, hX⟩ : ∃ q, W.alloc (.cells #[.int .i64 pl, .int .i64 kd, .int .i64 tg, .int .i64 ad] 50) = q := ⟨_, rfl⟩
  obtain ⟨fb, hfb⟩ : ∃ q, W.heap.size = q := ⟨_, rfl⟩
  have hbX : Below W.heap.size W X := by rw [← hX]; exact alloc_below _ _
  have HX := hidden (h.only hbX)
  have HWX := hidden (DBW.only h hbX)
  have hxs : Has X fb 50 #[.int .i64 pl, .int .i64 kd, .int .i64 tg, .int .i64 ad] := by rw [← hX, ← hfb]; exact Has.new _ _ _
  have HXS := hidden hxs
  have HFP : Hid (fb ≠ p) := hxs.differ (h.sb.has.below hbX h.sb.has.lt) (by decide)
  have HP1 := hidden (putWords_any (X.alloc (.cells #[.string ⟨#[102, 105, 120, 117, 112]⟩] 9)) B p S [] cs0 (HX.out.only (alloc_below _ _)) X.heap.size 1 1 [⟨#[102, 105, 120, 117, 112]⟩] rfl (Has.new _ _ _) (by decide) (by decide))
  have HW1 := hidden (HWX.out.trans (DBW.only HX.out (alloc_below X (.cells #[.string ⟨#[102, 105, 120, 117, 112]⟩] 9))))
  have HXS1 : Hid (Has (X.alloc (.cells #[.string ⟨#[102, 105, 120, 117, 112]⟩] 9)) fb 50 #[.int .i64 pl, .int .i64 kd, .int .i64 tg, .int .i64 ad]) := hxs.alloc _
  clear h hbX hxs HX HWX
  go_enter Tryd.func23, Tryd.ntmps23
  go_upto_region 1 with fail
  clear hX hfb
  go_wp2_with fail
  refine HP1.out.mono ?_
  rintro e w1 ⟨rfl, hw1⟩
  have HW2 := hidden (HW1.out.trans hw1)
  have hx := hw1.kept fb _ _ (by decide) (by decide) HFP.out HXS1.out
  obtain ⟨cs1, hd1⟩ := hw1.db
  have c0 : w1.cell? ⟨fb, 0, none⟩ = some (.int .i64 pl) := hx.cell 0
  have c1 : w1.cell? ⟨fb, 1, none⟩ = some (.int .i64 kd) := hx.cell 1
  have c2 : w1.cell? ⟨fb, 2, none⟩ = some (.int .i64 tg) := hx.cell 2
  have c3 : w1.cell? ⟨fb, 3, none⟩ = some (.int .i64 ad) := hx.cell 3
  have HD2 := hidden (hd1.only (alloc_below w1 (.cells #[.int .i64 pl, .int .i64 kd, .int .i64 tg, .int .i64 ad] 3)))
  have HW3 := hidden (HW2.out.trans (DBW.only hd1 (alloc_below w1 (.cells #[.int .i64 pl, .int .i64 kd, .int .i64 tg, .int .i64 ad] 3))))
  have HP2 := hidden (putNumbers_any (w1.alloc (.cells #[.int .i64 pl, .int .i64 kd, .int .i64 tg, .int .i64 ad] 3)) B p S _ cs1 HD2.out w1.heap.size 4 4 [pl, kd, tg, ad] rfl (Has.new _ _ _) (by simpa using hf) (by decide) (by decide))
  rw [HT.out] at HP2
  clear HP1 HW1 HXS HXS1 hw1 hx hd1 HD2 HW2 HFP hf
  go_wp2_with fail
  refine HP2.out.mono ?_
  rintro e w2 ⟨rfl, hw2⟩
  obtain ⟨cs2, hd2⟩ := hw2.db
  have HP3 := hidden (endLine_any w2 B p S _ cs2 hd2 hS)
  have HW4 := hidden (HW3.out.trans hw2)
  clear HP2 hw2 hd2 HW3 c0 c1 c2 c3
  go_wp2_with fail
  refine HP3.out.mono ?_
  rintro e w3 ⟨rfl, hw3⟩
  have HW5 := hidden (HW4.out.trans hw3)
  clear HP3 hw3 HW4
  go_wp2_with fail
  go_end0
  exact ⟨rfl, HW5.out⟩
set_option maxRecDepth 100000 in
set_option maxHeartbeats 2000000 in
theorem putSymbol_any (W : World) (B p : Nat) (S : List ByteArray) (cs0 : Array Value) (h : DB W B p S [] cs0) (hS : S.length ≤ 1000000) (m : Sm) (hn : m.name.size ≤ 1000000) (hf : I64 m.bind ∧ I64 m.loc ∧ I64 m.value) :
    Calls Tryd.prog 24 #[.pointer (some ⟨p, 0, none⟩), m.agg] W fun e w' => e = .returned (.tuple #[]) ∧ DBW W B p (S ++ [strOfNums (symT m)]) [] w' := by
  have HT := hidden (sym_line m)
  obtain ⟨nm, bd, lo, va⟩ := m
  unfold Sm.agg
  simp only at HT hf hn ⊢
  obtain ⟨X, hX⟩ : ∃ q, W.alloc (.cells #[.string nm, .int .i64 bd, .int .i64 lo, .int .i64 va] 52) = q := ⟨_, rfl⟩
  obtain ⟨fb, hfb⟩ : ∃ q, W.heap.size = q := ⟨_, rfl⟩
  have hbX : Below W.heap.size W X := by rw [← hX]; exact alloc_below _ _
  have HX := hidden (h.only hbX)
  have HWX := hidden (DBW.only h hbX)
  have hxs : Has X fb 52 #[.string nm, .int .i64 bd, .int .i64 lo, .int .i64 va] := by rw [← hX, ← hfb]; exact Has.new _ _ _
  have HFP : Hid (fb ≠ p) := hxs.differ (h.sb.has.below hbX h.sb.has.lt) (by decide)
  have c0 : X.cell? ⟨fb, 0, none⟩ = some (.string nm) := hxs.cell 0
  have HP1 := hidden (putWords_any (X.alloc (.cells #[.string ⟨#[115, 121, 109, 98, 111, 108]⟩, .string nm] 9)) B p S [] cs0 (HX.out.only (alloc_below _ _)) X.heap.size 2 2 [⟨#[115, 121, 109, 98, 111, 108]⟩, nm] rfl (Has.new _ _ _) (by simp only [lenW, List.length_nil]; have : (⟨#[115, 121, 109, 98, 111, 108]⟩ : ByteArray).size = 6 := rfl; omega) (by decide))
  have HW1 := hidden (HWX.out.trans (DBW.only HX.out (alloc_below X (.cells #[.string ⟨#[115, 121, 109, 98, 111, 108]⟩, .string nm] 9))))
  have HXS1 : Hid (Has (X.alloc (.cells #[.string ⟨#[115, 121, 109, 98, 111, 108]⟩, .string nm] 9)) fb 52 #[.string nm, .int .i64 bd, .int .i64 lo, .int .i64 va]) := hxs.alloc _
  have HNM := hidden hn
  clear h hbX hxs HX HWX hn
  go_enter Tryd.func24, Tryd.ntmps24
  go_upto_region 1 with fail
  clear hX hfb
  go_wp2_with fail
  refine HP1.out.mono ?_
  rintro e w1 ⟨rfl, hw1⟩
  have HW2 := hidden (HW1.out.trans hw1)
  have hx := hw1.kept fb _ _ (by decide) (by decide) HFP.out HXS1.out
  obtain ⟨cs1, hd1⟩ := hw1.db
  have c1 : w1.cell? ⟨fb, 1, none⟩ = some (.int .i64 bd) := hx.cell 1
  have c2 : w1.cell? ⟨fb, 2, none⟩ = some (.int .i64 lo) := hx.cell 2
  have c3 : w1.cell? ⟨fb, 3, none⟩ = some (.int .i64 va) := hx.cell 3
  have HD2 := hidden (hd1.only (alloc_below w1 (.cells #[.int .i64 bd, .int .i64 lo, .int .i64 va] 3)))
  have HW3 := hidden (HW2.out.trans (DBW.only hd1 (alloc_below w1 (.cells #[.int .i64 bd, .int .i64 lo, .int .i64 va] 3))))
  have HP2 := hidden (putNumbers_any (w1.alloc (.cells #[.int .i64 bd, .int .i64 lo, .int .i64 va] 3)) B p S _ cs1 HD2.out w1.heap.size 3 3 [bd, lo, va] rfl (Has.new _ _ _) (by simpa using hf) (by
    have := joinW_length [⟨#[115, 121, 109, 98, 111, 108]⟩, nm] []
    simp only [lenW, List.length_nil] at this
    have h6 : (⟨#[115, 121, 109, 98, 111, 108]⟩ : ByteArray).size = 6 := rfl
    have := HNM.out
    omega) (by decide))
  rw [HT.out] at HP2
  clear HP1 HW1 HXS1 hw1 hx hd1 HD2 HW2 HFP hf c0
  go_wp2_with fail
  refine HP2.out.mono ?_
  rintro e w2 ⟨rfl, hw2⟩
  obtain ⟨cs2, hd2⟩ := hw2.db
  have HP3 := hidden (endLine_any w2 B p S _ cs2 hd2 hS)
  have HW4 := hidden (HW3.out.trans hw2)
  clear HP2 hw2 hd2 HW3 c1 c2 c3
  go_wp2_with fail
  refine HP3.out.mono ?_
  rintro e w3 ⟨rfl, hw3⟩
  have HW5 := hidden (HW4.out.trans hw3)
  clear HP3 hw3 HW4
  go_wp2_with fail
  go_end0
  exact ⟨rfl, HW5.out⟩
/-- The cells of a section. -/
def secCells (y : Sp) : Array Value := #[.string y.s.name, .int .i64 y.s.kind, .int .i64 y.s.align, .slice y.a1 y.s.bytes.length y.c1, .int .i64 y.s.size, .slice y.a2 y.s.fixs.length y.c2]
/-- Around the three numbers of a section's line. -/
structure JZ (w0 : World) (A B p sb : Nat) (y : Sp) (S : List ByteArray) (L : List Int) (k : Nat) (W : World) (vals : Nat → Value) : Prop where
  wrote : k ≤ 2 → DBW w0 B p S L W
  has : k ≤ 3 → Has W sb 45 #[.string y.s.name, .int .i64 y.s.kind, .int .i64 y.s.align, .slice y.a1 y.s.bytes.length y.c1, .int .i64 y.s.size, .slice y.a2 y.s.fixs.length y.c2]
  ints : Ints W .u8 A y.a1 y.s.bytes
  fixs : Fixs W A y.a2 y.s.fixs
  low : A ≤ W.heap.size
  size : 1 ≤ k → vals 0 = .int .i64 y.s.long
  arr : k = 2 → ∃ q, vals 1 = .slice (some ⟨q, 0, none⟩) 3 3 ∧ Has W q 3 #[.int .i64 y.s.kind, .int .i64 y.s.align, .int .i64 y.s.long]
  fin : k = 3 → DBW w0 B p S (joinW L ([y.s.kind, y.s.align, y.s.long].map numT)) W
set_option maxRecDepth 100000 in
set_option maxHeartbeats 4000000 in
theorem putSection_any (W : World) (A B p : Nat) (S : List ByteArray) (cs0 : Array Value) (h : DB W B p S [] cs0) (hAB : A ≤ B) (hS : S.length ≤ 1000000) (y : Sp) (h1 : Ints W .u8 A y.a1 y.s.bytes) (h2 : Fixs W A y.a2 y.s.fixs) (hf : y.s.fits) (hn : y.s.name.size ≤ 1000000) (hb : y.s.bytes.length ≤ 1000000) (hlong : I64 y.s.long) :
    Calls Tryd.prog 22 #[.pointer (some ⟨p, 0, none⟩), y.agg] W fun e w' => e = .returned (.tuple #[]) ∧ DBW W B p (S ++ [strOfNums (secT y.s)]) [] w' := by
  have HT := hidden (sec_line y.s)
  obtain ⟨X, hX⟩ : ∃ q, W.alloc (.cells #[.string y.s.name, .int .i64 y.s.kind, .int .i64 y.s.align, .slice y.a1 y.s.bytes.length y.c1, .int .i64 y.s.size, .slice y.a2 y.s.fixs.length y.c2] 45) = q := ⟨_, rfl⟩
  obtain ⟨fb, hfb⟩ : ∃ q, W.heap.size = q := ⟨_, rfl⟩
  have hbX : Below W.heap.size W X := by rw [← hX]; exact alloc_below _ _
  have HX := hidden (h.only hbX)
  have HWX := hidden (DBW.only h hbX)
  have hxs : Has X fb 45 #[.string y.s.name, .int .i64 y.s.kind, .int .i64 y.s.align, .slice y.a1 y.s.bytes.length y.c1, .int .i64 y.s.size, .slice y.a2 y.s.fixs.length y.c2] := by rw [← hX, ← hfb]; exact Has.new _ _ _
  have HFP : Hid (fb ≠ p) := hxs.differ (h.sb.has.below hbX h.sb.has.lt) (by decide)
  have c0 : X.cell? ⟨fb, 0, none⟩ = some (.string y.s.name) := hxs.cell 0
  have hA : A ≤ W.heap.size := Nat.le_trans hAB h.sb.size
  have HP1 := hidden (putWords_any (X.alloc (.cells #[.string ⟨#[115, 101, 99, 116, 105, 111, 110]⟩, .string y.s.name] 9)) B p S [] cs0 (HX.out.only (alloc_below _ _)) X.heap.size 2 2 [⟨#[115, 101, 99, 116, 105, 111, 110]⟩, y.s.name] rfl (Has.new _ _ _) (by simp only [lenW, List.length_nil]; have : (⟨#[115, 101, 99, 116, 105, 111, 110]⟩ : ByteArray).size = 7 := rfl; omega) (by decide))
  have HW1 := hidden (HWX.out.trans (DBW.only HX.out (alloc_below X (.cells #[.string ⟨#[115, 101, 99, 116, 105, 111, 110]⟩, .string y.s.name] 9))))
  have HXS1 : Hid (Has (X.alloc (.cells #[.string ⟨#[115, 101, 99, 116, 105, 111, 110]⟩, .string y.s.name] 9)) fb 45 #[.string y.s.name, .int .i64 y.s.kind, .int .i64 y.s.align, .slice y.a1 y.s.bytes.length y.c1, .int .i64 y.s.size, .slice y.a2 y.s.fixs.length y.c2]) := hxs.alloc _
  have HNM := hidden hn
  have HBN := hidden hb
  have HI := hidden (fun (W' : World) (hW : Below B W W') => And.intro (h1.below (hW.mono hAB)) (And.intro (h2.below (hW.mono hAB)) (Nat.le_trans hA hW.size)))
  have HFT := hidden hf
  have HLG := hidden hlong
  have hagg : y.agg = .agg #[.string y.s.name, .int .i64 y.s.kind, .int .i64 y.s.align, .slice y.a1 y.s.bytes.length y.c1, .int .i64 y.s.size, .slice y.a2 y.s.fixs.length y.c2] := rfl
  have HSZ : Hid (∀ W' : World, Ints W' .u8 A y.a1 y.s.bytes → Fixs W' A y.a2 y.s.fixs → A ≤ W'.heap.size → Calls Tryd.prog 39 #[.agg #[.string y.s.name, .int .i64 y.s.kind, .int .i64 y.s.align, .slice y.a1 y.s.bytes.length y.c1, .int .i64 y.s.size, .slice y.a2 y.s.fixs.length y.c2]] W' fun e w' => e = .returned (.int .i64 y.s.long) ∧ Below W'.heap.size W' w') := fun W' k1 k2 k3 => wantSectionSize W' A y.s y.a1 y.c1 y.a2 y.c2 k1 k2 k3 hf
  rw [hagg]
  obtain ⟨nb, hnb⟩ : ∃ q, y.s.bytes.length = q := ⟨_, rfl⟩
  have HNB := hidden hnb
  clear h hbX hxs HX HWX hn hb h1 h2 hf hA hAB hlong hagg hnb
  go_enter Tryd.func22, Tryd.ntmps22
  go_upto_region 1 with fail
  clear hX hfb
  go_wp2_with fail
  refine HP1.out.mono ?_
  rintro e w1 ⟨rfl, hw1⟩
  have HW2 := hidden (HW1.out.trans hw1)
  have hx := hw1.kept fb _ _ (by decide) (by decide) HFP.out HXS1.out
  obtain ⟨L1, hL1⟩ : ∃ q, joinW [] [⟨#[115, 101, 99, 116, 105, 111, 110]⟩, y.s.name] = q := ⟨_, rfl⟩
  have hl1 : L1.length ≤ 1000020 := by
    have := joinW_length [⟨#[115, 101, 99, 116, 105, 111, 110]⟩, y.s.name] []
    rw [hL1] at this
    simp only [lenW, List.length_nil] at this
    have h6 : (⟨#[115, 101, 99, 116, 105, 111, 110]⟩ : ByteArray).size = 7 := rfl
    have := HNM.out
    omega
  rw [hL1] at HT HW2
  have HL1 := hidden hl1
  have hdr : Below w1.heap.size w1 w1.drew := ⟨rfl, rfl, rfl, Nat.le_refl _, fun _ _ => rfl⟩
  have hJ0 : Hid (JZ W A B p fb y S L1 0 w1.drew fun _ => undef) := by
    obtain ⟨cs1, hd1⟩ := HW2.out.db
    have hw3 := HW2.out.trans (DBW.only hd1 hdr)
    obtain ⟨i1, i2, i3⟩ := HI.out w1.drew hw3.below
    exact ⟨fun _ => hw3, fun _ => hx, i1, i2, i3, fun h => absurd h (by decide), fun h => absurd h (by decide), fun h => absurd h (by decide)⟩
  clear HP1 HW1 HXS1 hw1 hx c0 HW2 hL1 hl1 hdr
  go_upto_region 2 with fail
  refine wp_region_chain (m := 3) (js := [.quiet (.pointer (some ⟨p, 0, none⟩)) 3, .quiet (.pointer (some ⟨fb, 1, none⟩)) 3, .quiet (.int .i64 y.s.kind) 1, .quiet (.pointer (some ⟨fb, 2, none⟩)) 3, .quiet (.int .i64 y.s.align) 1, .quiet (.agg #[.string y.s.name, .int .i64 y.s.kind, .int .i64 y.s.align, .slice y.a1 y.s.bytes.length y.c1, .int .i64 y.s.size, .slice y.a2 y.s.fixs.length y.c2]) 0, .chain 0, .chain 1, .chain 2]) (by kernel_rfl) (JZ W A B p fb y S L1) (by kernel_rfl) (by kernel_rfl) ⟨_, hJ0.out⟩ (fun vals => ?_) ?_
  · show SeqW _ _ _ _ _ _ _
    refine ⟨fun k hk W hW => ?_, ?_⟩
    · unfold Oper.wp
      simp [go_sem]
      try exact ⟨_, rfl, rfl⟩
    simp only [Act.put, List.setIfInBounds_toArray, List.set_cons_succ, List.set_cons_zero]
    refine ⟨fun k hk W hW => ?_, ?_⟩
    · unfold Oper.wp
      simp [go_sem]
      try exact ⟨_, rfl, rfl⟩
    simp only [Act.put, List.setIfInBounds_toArray, List.set_cons_succ, List.set_cons_zero]
    refine ⟨fun k hk W hW => ?_, ?_⟩
    · have q := (hW.has (by omega)).cell 1
      unfold Oper.wp
      simp [go_sem, q]
      try exact ⟨_, rfl, rfl⟩
    simp only [Act.put, List.setIfInBounds_toArray, List.set_cons_succ, List.set_cons_zero]
    refine ⟨fun k hk W hW => ?_, ?_⟩
    · unfold Oper.wp
      simp [go_sem]
      try exact ⟨_, rfl, rfl⟩
    simp only [Act.put, List.setIfInBounds_toArray, List.set_cons_succ, List.set_cons_zero]
    refine ⟨fun k hk W hW => ?_, ?_⟩
    · have q := (hW.has (by omega)).cell 2
      unfold Oper.wp
      simp [go_sem, q]
      try exact ⟨_, rfl, rfl⟩
    simp only [Act.put, List.setIfInBounds_toArray, List.set_cons_succ, List.set_cons_zero]
    refine ⟨fun k hk W hW => ?_, ?_⟩
    · have q0 := (hW.has (by omega)).cell 0
      have q1 := (hW.has (by omega)).cell 1
      have q2 := (hW.has (by omega)).cell 2
      have q3 := (hW.has (by omega)).cell 3
      have q4 := (hW.has (by omega)).cell 4
      have q5 := (hW.has (by omega)).cell 5
      unfold Oper.wp
      simp [go_sem, q0, q1, q2, q3, q4, q5]
      try exact ⟨_, rfl, rfl⟩
    simp only [Act.put, List.setIfInBounds_toArray, List.set_cons_succ, List.set_cons_zero]
    refine ⟨fun W' hW => ?_, ?_⟩
    · unfold Oper.wp
      simp [go_sem]
      refine (HSZ.out W' hW.ints hW.fixs hW.low).mono ?_
      rintro e w' ⟨rfl, hb⟩
      have hN : JZ W A B p fb y S L1 1 w' (upd vals 0 (.int .i64 y.s.long)) := by
        obtain ⟨cs1, hd1⟩ := (hW.wrote (by decide)).db
        exact ⟨fun _ => (hW.wrote (by decide)).trans (DBW.only hd1 hb), fun _ => (hW.has (by decide)).below hb (hW.has (by decide)).lt, hW.ints.below (hb.mono hW.low), hW.fixs.below (hb.mono hW.low), Nat.le_trans hW.low hb.size, fun _ => rfl, fun h => absurd h (by decide), fun h => absurd h (by decide)⟩
      first | exact hN | exact ⟨_, rfl, hN⟩
    simp only [Act.put, List.setIfInBounds_toArray, List.set_cons_succ, List.set_cons_zero]
    refine ⟨fun W' hW => ?_, ?_⟩
    · have q1 := hW.size (by decide)
      have hb := alloc_below W' (.cells #[.int .i64 y.s.kind, .int .i64 y.s.align, .int .i64 y.s.long] 3)
      have hN : JZ W A B p fb y S L1 2 (W'.alloc (.cells #[.int .i64 y.s.kind, .int .i64 y.s.align, .int .i64 y.s.long] 3)) (upd vals 1 (.slice (some ⟨W'.heap.size, 0, none⟩) 3 3)) := by
        obtain ⟨cs1, hd1⟩ := (hW.wrote (by decide)).db
        exact ⟨fun _ => (hW.wrote (by decide)).trans (DBW.only hd1 hb), fun _ => (hW.has (by decide)).alloc _, hW.ints.below (hb.mono hW.low), hW.fixs.below (hb.mono hW.low), Nat.le_trans hW.low hb.size, fun _ => q1, fun _ => ⟨_, rfl, Has.new _ _ _⟩, fun h => absurd h (by decide)⟩
      unfold Oper.wp
      simp [go_sem, q1]
      first | exact hN | exact ⟨_, rfl, hN⟩
    simp only [Act.put, List.setIfInBounds_toArray, List.set_cons_succ, List.set_cons_zero]
    refine ⟨fun W' hW => ?_, trivial⟩
    obtain ⟨qb, hq, hqh⟩ := hW.arr rfl
    have hw := hW.wrote (by decide)
    obtain ⟨cs1, hd1⟩ := hw.db
    have hPN := hidden (putNumbers_any W' B p S L1 cs1 hd1 qb 3 3 [y.s.kind, y.s.align, y.s.long] rfl hqh (by simpa using ⟨HFT.out.kind, HFT.out.align, HLG.out⟩) (by have := HL1.out; omega) (by decide))
    unfold Oper.wp
    simp [go_sem, hq]
    refine hPN.out.mono ?_
    rintro e w' ⟨rfl, hn⟩
    have hall := hw.trans hn
    obtain ⟨i1, i2, i3⟩ := HI.out w' hall.below
    have hN : ∀ u, JZ W A B p fb y S L1 3 w' (upd vals 2 u) := fun u => ⟨fun h => absurd h (by decide), fun _ => hn.kept fb _ _ (by decide) (by decide) HFP.out (hW.has (by decide)), i1, i2, i3, fun _ => hW.size (by decide), fun h => absurd h (by decide), fun _ => hall⟩
    first | exact hN _ | exact ⟨_, rfl, hN _⟩
  · intro w2 vals hJ
    have hw := hJ.fin rfl
    rw [HT.out] at hw
    have hx := hJ.has (by decide)
    have c3 : w2.cell? ⟨fb, 3, none⟩ = some (.slice y.a1 y.s.bytes.length y.c1) := hx.cell 3
    obtain ⟨cs2, hd2⟩ := hw.db
    obtain ⟨L2, hL2⟩ : ∃ q, tSec ++ 32 :: (numsOf y.s.name ++ 32 :: (numL y.s.kind ++ 32 :: (numL y.s.align ++ 32 :: numL y.s.long))) = q := ⟨_, rfl⟩
    have hne : L2 ≠ [] := by rw [← hL2]; simp
    rw [hL2] at hw hd2
    have hsecT : Hid (secT y.s = if 0 < y.s.bytes.length then L2 ++ 32 :: hexL y.s.bytes else L2) := by
      show _ = _
      unfold secT
      rw [← hL2]
      split <;> simp
    have hl2 : Hid (L2.length ≤ 1001000) := by
      show _ ≤ _
      rw [← hL2]
      have h1 := numL_size HFT.out.kind
      have h2 := numL_size HFT.out.align
      have h3 := numL_size HLG.out
      have h4 := HNM.out
      have h5 : tSec.length = 7 := rfl
      simp only [List.length_append, List.length_cons, numsOf_length]
      omega
    have HW2 := hidden hw
    have HD2 := hidden hd2
    have HNE := hidden hne
    have HI1 := hidden hJ.ints
    have HLW := hidden hJ.low
    simp only [putAll, List.map_cons, List.map_nil, Job.val, Act.put, List.setIfInBounds_toArray, List.set_cons_succ, List.set_cons_zero]
    clear hJ0 hJ hw hd2 hne hx HT hL2 HSZ
    rw [HNB.out] at c3
    by_cases hz : 0 < nb
    · have hzi : (0 : Int) < (nb : Int) := by omega
      have HHX := hidden (hexText_any w2 A y.a1 y.c1 y.s.bytes HI1.out HLW.out (by have := HBN.out; omega))
      rw [HNB.out] at HHX
      obtain ⟨tx, htx⟩ : ∃ q, strOfNums (hexL y.s.bytes) = q := ⟨_, rfl⟩
      rw [htx] at HHX
      have HTX := hidden htx
      clear htx
      go_wp2_with fail
      refine HHX.out.mono ?_
      rintro e w3 ⟨rfl, hb3⟩
      have HD3 := hidden (HD2.out.only hb3)
      have HW3 := hidden (HW2.out.trans (DBW.only HD2.out hb3))
      have HP := hidden (putWords_any (w3.alloc (.cells #[.string tx] 9)) B p S L2 cs2 (HD3.out.only (alloc_below _ _)) w3.heap.size 1 1 [tx] rfl (Has.new _ _ _) (by simp only [lenW]; rw [← HTX.out, strOfNums_size, hexL_length]; have := HBN.out; have := hl2.out; omega) (by decide))
      have HW4 := hidden (HW3.out.trans (DBW.only HD3.out (alloc_below w3 (.cells #[.string tx] 9))))
      clear HHX hb3 HD3 HW3 c3
      go_wp2_with fail
      refine HP.out.mono ?_
      rintro e w4 ⟨rfl, hw4⟩
      obtain ⟨cs4, hd4⟩ := hw4.db
      have HE := hidden (endLine_any w4 B p S _ cs4 hd4 hS)
      have HW5 := hidden (HW4.out.trans hw4)
      have HLN : Hid (joinW L2 [tx] = secT y.s) := by
        show _ = _
        rw [hsecT.out, if_pos (by rw [HNB.out]; exact hz), joinW_ne _ HNE.out, ← HTX.out]
        have : numsOf (strOfNums (hexL y.s.bytes)) = hexL y.s.bytes := numsOf_strOfNums fun c hc => by have := hexL_chars y.s.bytes (fun x hx => wf_u8.mp (HI1.out.1 x hx)) c hc; omega
        simp [this]
      rw [HLN.out] at HE
      clear HP hw4 hd4 HW4
      go_wp2_with fail
      refine HE.out.mono ?_
      rintro e w5 ⟨rfl, hw5⟩
      have HF := hidden (HW5.out.trans hw5)
      clear HE hw5 HW5
      go_wp2_with fail
      go_end0
      exact ⟨rfl, HF.out⟩
    · have hzi : ¬ (0 : Int) < (nb : Int) := by omega
      have HE := hidden (endLine_any w2 B p S L2 cs2 HD2.out hS)
      have HLN : Hid (L2 = secT y.s) := by show _ = _; rw [hsecT.out, if_neg (by rw [HNB.out]; exact hz)]
      rw [HLN.out] at HE
      go_wp2_with fail
      refine HE.out.mono ?_
      rintro e w5 ⟨rfl, hw5⟩
      have HF := hidden (HW2.out.trans hw5)
      clear HE hw5 HW2
      go_wp2_with fail
      go_end0
      exact ⟨rfl, HF.out⟩
end Go.Proofs.YtdmdjlnpbmiadaaDoor

/-
  impl.symbolsWhere and impl.symbolsUsed: sets of symbols.
-/
import Derived.Test.YtjpclpjhigongaaMskI
namespace Go.Proofs.Ytjpclpjhigongaa
open Go.RowKit

/-- The mask of those of the first symbols that are taken. -/
def InM (tq : Sm → Bool) (ms : List Sm) (M : Nat) : Prop := M < 65536 ∧ ∀ i, M.testBit i = ((ms[i]?).map tq).getD false
theorem InM.start (tq : Sm → Bool) : InM tq [] 0 := ⟨by decide, fun i => by simp⟩
theorem InM.next {tq : Sm → Bool} {ms : List Sm} {M : Nat} (h : InM tq ms M) (y : Sm) (hk : ms.length < 16) : InM tq (ms ++ [y]) (if tq y then M ||| 2 ^ ms.length else M) := by
  refine ⟨?_, fun i => ?_⟩
  · split
    · exact Nat.or_lt_two_pow (n := 16) h.1 (pow_lt16 hk)
    · exact h.1
  have hi := h.2 i
  rcases Nat.lt_trichotomy i ms.length with hlt | rfl | hgt
  · rw [List.getElem?_append_left hlt]
    cases tq y with
    | true => rw [if_pos rfl, Nat.testBit_or, Nat.testBit_two_pow_of_ne (by omega), Bool.or_false]; exact hi
    | false => exact hi
  · have hz : M.testBit ms.length = false := by rw [hi, List.getElem?_eq_none (Nat.le_refl _)]; rfl
    rw [List.getElem?_append_right (Nat.le_refl _), Nat.sub_self]
    cases hq : tq y with
    | true => rw [if_pos rfl, Nat.testBit_or, Nat.testBit_two_pow_self]; simp [hq]
    | false => rw [if_neg (by simp), hz]; simp [hq]
  · have hz : M.testBit i = false := by rw [hi, List.getElem?_eq_none (by omega)]; rfl
    rw [List.getElem?_eq_none (by simp; omega)]
    cases tq y with
    | true => rw [if_pos rfl, Nat.testBit_or, Nat.testBit_two_pow_of_ne (by omega), Bool.or_false]; exact hz
    | false => exact hz
theorem InM.same {tq : Sm → Bool} {ms : List Sm} {M M' : Nat} (h : InM tq ms M) (h' : InM tq ms M') : M = M' := Nat.eq_of_testBit_eq fun i => by rw [h.2, h'.2]




























































































































































































/-- The mask of the symbols that fixups use: those of the first sections, and of some fixups more. -/
def InU (ss : List Sx) (fs : List Fx) (N : Nat) : Prop := N < 65536 ∧ ∀ i : Nat, N.testBit i = (usedB ss (i : Int) || fs.any fun f => decide (f.to = (i : Int)))
theorem InU.start : InU [] [] 0 := ⟨by decide, fun i => by simp [usedB]⟩
theorem InU.next {ss : List Sx} {fs : List Fx} {N : Nat} (h : InU ss fs N) (f : Fx) {t : Nat} (hf : f.to = (t : Int)) (ht : t < 16) : InU ss (fs ++ [f]) (N ||| 2 ^ t) := by
  refine ⟨Nat.or_lt_two_pow (n := 16) h.1 (pow_lt16 ht), fun i => ?_⟩
  rw [Nat.testBit_or, h.2 i, List.any_append, Bool.or_assoc]
  congr 2
  rw [Nat.testBit_two_pow, List.any_cons, List.any_nil, Bool.or_false, hf]
  by_cases e : t = i
  · subst e; simp
  · rw [decide_eq_false e, decide_eq_false (by omega)]
theorem InU.close {ss : List Sx} {s : Sx} {N : Nat} (h : InU ss s.fixs N) : InU (ss ++ [s]) [] N :=
  ⟨h.1, fun i => by rw [h.2 i]; unfold usedB usesF; rw [List.any_append]; simp⟩
theorem InU.same {ss : List Sx} {N N' : Nat} (h : InU ss [] N) (h' : InU ss [] N') : N = N' := Nat.eq_of_testBit_eq fun i => by rw [h.2, h'.2]
set_option maxRecDepth 100000 in
set_option maxHeartbeats 2000000 in
theorem symbolsUsed_any (w : World) (B : Nat) (a1 a2 : Option Addr) (c1 c2 n m : Nat) (l : List Sp) (hn : n = l.length) (h1 : Sects w B a1 l) (hB : B ≤ w.heap.size) (hlen : n ≤ 1048576) (hlem : m ≤ 12) (hl : ∀ y ∈ l, y.s.fixs.length ≤ 1048576) (hto : ∀ y ∈ l, ∀ f ∈ y.s.fixs, 0 ≤ f.to ∧ f.to < m) :
    Calls Try.prog 29 #[.agg #[.slice a1 n c1, .slice a2 m c2]] w fun e w' => (∃ N : Nat, e = .returned (.int .u16 N) ∧ InU (l.map Sp.s) [] N) ∧ Below w.heap.size w w' := by
  have hA : Has (w.alloc (.cells #[.slice a1 n c1, .slice a2 m c2] 26)) w.heap.size 26 #[.slice a1 n c1, .slice a2 m c2] := Has.new _ _ _
  have hBa : Below w.heap.size w (w.alloc (.cells #[.slice a1 n c1, .slice a2 m c2] 26)) := (Below.refl _ _).alloc (Nat.le_refl _) _
  obtain ⟨W1, hW1⟩ : ∃ q, w.alloc (.cells #[.slice a1 n c1, .slice a2 m c2] 26) = q := ⟨_, rfl⟩
  rw [hW1] at hA hBa
  have HW1 := hidden hW1
  have HN := hidden hn
  have HL := hidden hl
  have HTO := hidden hto
  have H1 := hidden (h1.more hB)
  have HB1 := hidden hBa
  have q0 : W1.cell? ⟨w.heap.size, 0, none⟩ = some (.slice a1 n c1) := hA.cell 0
  clear hW1 hn hl hto h1 hB hA hBa
  go_enter Try.func29, Try.ntmps29
  go_upto_region 1 with fail
  rw [HW1.out]
  clear HW1
  go_wp2_with fail
  clear q0
  go_loopw [3, 11] (fun mv i wr => ∃ k N : Nat, i = .int .i64 k ∧ mv = .int .u16 N ∧ k ≤ n ∧ Hid (Below w.heap.size w wr) ∧ Hid (InU ((l.take k).map Sp.s) [] N)) (fun _ i _ => n - (intOf i).toNat)
  case atStart => exact ⟨0, 0, rfl, rfl, Nat.zero_le _, HB1, InU.start⟩
  case round =>
    obtain ⟨k, N, rfl, rfl, hk, hb, hU⟩ := hrel
    clear HB1
    by_cases hlt : k < n
    · have hilt : (k : Int) < (n : Int) := by omega
      have hkl : k < l.length := by rw [← HN.out]; exact hlt
      have hs1 := H1.out.below hb.out
      obtain ⟨b, off, rfl, hbB, p0, p1, p2, p3, p4, p5⟩ := hs1.at_ hkl
      obtain ⟨y, hy⟩ : ∃ y, l[k] = y := ⟨_, rfl⟩
      rw [hy] at p0 p1 p2 p3 p4 p5
      have hy2 : l[k]? = some y := by rw [List.getElem?_eq_getElem hkl, hy]
      have hym := List.mem_of_getElem? hy2
      have hsf := HL.out y hym
      have HT : Hid (∀ f ∈ y.s.fixs, 0 ≤ f.to ∧ f.to < m) := HTO.out y hym
      have hfx := H1.out.fixs y hym
      have HTK : Hid ((l.take (k + 1)).map Sp.s = (l.take k).map Sp.s ++ [y.s]) := by show _ = _; rw [take_next hy2]; simp
      obtain ⟨⟨nm, kd, al, bs, sz, fs⟩, ya1, yc1, ya2, yc2⟩ := y
      dsimp only at p0 p1 p2 p3 p4 p5 hsf HT hfx HTK
      obtain ⟨nb, hnb⟩ : ∃ q, bs.length = q := ⟨_, rfl⟩
      obtain ⟨nf, hnf⟩ : ∃ q, fs.length = q := ⟨_, rfl⟩
      rw [hnb] at p3
      rw [hnf] at p5 hsf
      have HNF := hidden hnf.symm
      have HFX : Hid (∀ W, Below w.heap.size w W → Fixs W w.heap.size ya2 fs) := fun W hW => hfx.below hW
      have hS : Has (wr.alloc (.cells #[.string nm, .int .i64 kd, .int .i64 al, .slice ya1 nb yc1, .int .i64 sz, .slice ya2 nf yc2] 64)) wr.heap.size 64 #[.string nm, .int .i64 kd, .int .i64 al, .slice ya1 nb yc1, .int .i64 sz, .slice ya2 nf yc2] := Has.new _ _ _
      have HBS : Hid (Below w.heap.size w (wr.alloc (.cells #[.string nm, .int .i64 kd, .int .i64 al, .slice ya1 nb yc1, .int .i64 sz, .slice ya2 nf yc2] 64))) := hb.out.alloc hb.out.size _
      obtain ⟨W5, hW5⟩ : ∃ q, wr.alloc (.cells #[.string nm, .int .i64 kd, .int .i64 al, .slice ya1 nb yc1, .int .i64 sz, .slice ya2 nf yc2] 64) = q := ⟨_, rfl⟩
      rw [hW5] at hS HBS
      have s5 : W5.cell? ⟨wr.heap.size, 5, none⟩ = some (.slice ya2 nf yc2) := hS.cell 5
      have HW5 := hidden hW5
      have HU0 : Hid (InU ((l.take k).map Sp.s) (fs.take 0) N) := by rw [List.take_zero]; exact hU
      clear hlt hkl hs1 hbB hy hy2 hym hnb hnf hS hW5 hb hfx hU
      go_upto_region 5 with fail
      rw [HW5.out]
      clear p0 p1 p2 p3 p4 p5 HW5
      go_wp2_with fail
      clear s5
      go_loopw [3, 18] (fun mv i wr => ∃ j N : Nat, i = .int .i64 j ∧ mv = .int .u16 N ∧ j ≤ nf ∧ Hid (Below w.heap.size w wr) ∧ Hid (InU ((l.take k).map Sp.s) (fs.take j) N)) (fun _ i _ => nf - (intOf i).toNat)
      case atStart => exact ⟨0, N, rfl, rfl, Nat.zero_le _, HBS, HU0⟩
      case round =>
        obtain ⟨j, N2, rfl, rfl, hj, hb2, hU2⟩ := hrel
        clear HBS HU0
        by_cases hltj : j < nf
        · have hiltj : (j : Int) < (nf : Int) := by omega
          have hjl : j < fs.length := by rw [← HNF.out]; exact hltj
          obtain ⟨b2, o2, rfl, -, f0, f1, f2, f3⟩ := (HFX.out wr hb2.out).at_ hjl
          obtain ⟨f, hf⟩ : ∃ f, fs[j] = f := ⟨_, rfl⟩
          rw [hf] at f0 f1 f2 f3
          have hf2 : fs[j]? = some f := by rw [List.getElem?_eq_getElem hjl, hf]
          obtain ⟨ht0, ht1⟩ := HT.out f (List.mem_of_getElem? hf2)
          obtain ⟨tn, htn⟩ := Int.eq_ofNat_of_zero_le ht0
          have ht16 : tn < 16 := by omega
          rw [htn] at f2
          have HNX := hidden (hU2.out.next f htn ht16)
          rw [← take_next hf2] at HNX
          have hbo : bits .or .u16 (N2 : Int) (IntKind.u16.wrap (2 ^ tn)) = ((N2 ||| 2 ^ tn : Nat) : Int) := by
            rw [wrap_pow tn ht16]
            exact u16_or_nat N2 (2 ^ tn) hU2.out.1 (pow_lt16 ht16)
          have hF : Has (wr.alloc (.cells #[.int .i64 f.pl, .int .i64 f.kind, .int .i64 (tn : Int), .int .i64 f.add] 71)) wr.heap.size 71 #[.int .i64 f.pl, .int .i64 f.kind, .int .i64 (tn : Int), .int .i64 f.add] := Has.new _ _ _
          have g2 := hF.cell 2
          have HBF : Hid (Below w.heap.size w (wr.alloc (.cells #[.int .i64 f.pl, .int .i64 f.kind, .int .i64 (tn : Int), .int .i64 f.add] 71))) := hb2.out.alloc hb2.out.size _
          clear hltj hjl hf hf2 ht0 ht1 htn hF hU2 hb2
          go_wp2_with fail
          go_roundw
          case rel => exact ⟨j + 1, N2 ||| 2 ^ tn, by go_num, rfl, by omega, HBF, HNX⟩
          case measure => simp [intOf]; omega
        · have hiltj : ¬ (j : Int) < (nf : Int) := by omega
          have HUN : Hid (InU ((l.take (k + 1)).map Sp.s) [] N2) := by
            have := hU2.out
            rw [List.take_of_length_le (show fs.length ≤ j by rw [← HNF.out]; omega)] at this
            rw [HTK.out]
            exact InU.close (s := ⟨nm, kd, al, bs, sz, fs⟩) this
          clear hltj hj hU2
          go_wp2_with fail
          go_roundw
          case rel => exact ⟨k + 1, N2, by go_num, rfl, by omega, hb2, HUN⟩
          case measure => simp [intOf]; omega
    · have hilt : ¬ (k : Int) < (n : Int) := by omega
      have HUF : Hid (InU (l.map Sp.s) [] N) := by
        have := hU.out
        rwa [List.take_of_length_le (by rw [← HN.out]; omega)] at this
      clear hlt hU hk
      go_wp2_with fail
      go_ret
      exact ⟨⟨N, rfl, HUF.out⟩, hb.out⟩

end Go.Proofs.Ytjpclpjhigongaa

/-
  The walk of FnExactNameTable.
-/
import Derived.Test.YtdaddhliedocaaaTableI
import Derived.Test.YtdaddhliedocaaaLawN3
import Derived.Test.YtdaddhliedocaaaDrawT
import Derived.Test.YtdaddhliedocaaaSzS
import Derived.Test.YtdaddhliedocaaaToS
import Derived.Test.YtdaddhliedocaaaEqS
import Derived.Test.YtdaddhliedocaaaEqB
import Derived.Test.YtdaddhliedocaaaMarkSS
import Derived.Test.YtdaddhliedocaaaMarkW
namespace Go.Proofs.Ytdaddhliedocaaa
open Go.RowKit

theorem vals_of_has {w : World} {g B : Nat} {T : TypeId} {vs : List Value} (h : Has w g T vs.toArray) (hB : g < B) : Vals w B (some ⟨g, 0, none⟩) vs := fun _ =>
  ⟨g, 0, rfl, hB, fun i u hi => by rw [Nat.zero_add, h.cell]; simpa using hi⟩
/-- Bytes at the head of a block stay while the block does. -/
theorem Ints.same {w w' : World} {B g : Nat} {a : Option Addr} {l : List Int} (h : Ints w .u8 B a l) (ha : 0 < l.length → a = some ⟨g, 0, none⟩) (hg : w'.heap[g]? = w.heap[g]?) : Ints w' .u8 B a l := by
  refine ⟨h.1, fun hn => ?_⟩
  obtain ⟨b, off, e, hb, hc⟩ := h.2 hn
  rw [ha hn] at e
  injection e with e
  injection e with e1 e2
  subst e1; subst e2
  exact ⟨g, 0, ha hn, hb, fun i hi => (World.cell?_of_block hg).trans (hc i hi)⟩
/-- The program's table: where it lies. -/
theorem TabledO.parts {w : World} {l : List Int} {e : Ending} {w' : World} (h : TabledO w l e w') (hwf : ∀ x ∈ l, (Lit.int .u8 x).wf = true) :
    ∃ (a : Option Addr) (c g : Nat), e = .returned (.slice a l.length c) ∧ l.length ≤ 9223372036854775807 ∧ Ints w' .u8 w'.heap.size a l ∧ w.heap.size ≤ g ∧ (0 < l.length → a = some ⟨g, 0, none⟩ ∧ ∃ cs, Has w' g 5 cs ∧ l.length ≤ cs.size) ∧ Below w.heap.size w w' := by
  obtain ⟨v, rfl, hown, hb⟩ := h
  obtain ⟨a, c, rfl, hc, hm, hi⟩ := ints_of_own3 hown hwf
  have hl : l.length ≤ 9223372036854775807 := by unfold maxLen at hm; omega
  rcases hown.2 with ⟨hv, h0⟩ | ⟨g, cap, cur, hv, hbase, hh, hn, _, hs, _⟩
  · exact ⟨a, c, w.heap.size, rfl, hl, hi, Nat.le_refl _, fun h => by omega, hb⟩
  · injection hv with e1 e2 e3
    exact ⟨a, c, g, rfl, hl, hi, hbase, fun _ => ⟨e1, cur, hh, by omega⟩, hb⟩
theorem nameTab_401 (names : List ByteArray) : (nameTab names).length ≤ 401 := by
  cases hok : namesOk names with
  | true =>
    refine nameTab_short fun x hx => ?_
    simp only [namesOk, Bool.and_eq_true, List.all_eq_true] at hok
    have := nameOk_size (hok.1 x hx)
    omega
  | false =>
    have e : nameTab names = [] := by unfold nameTab; rw [hok]; rfl
    rw [e]; simp
set_option maxHeartbeats 1000000 in
theorem law_ExactNameTable (w : World) (a : Option Addr) (c n : Nat) (ss : List ByteArray) (hn : n = ss.length) (h : Vals w w.heap.size a (ss.map Value.string)) (hmax : n ≤ 9223372036854775807) (hs : ∀ s ∈ ss, s.size ≤ maxLen) :
    Calls Try.prog 9 #[.slice a n c] w fun e w' => e = .returned (.bool true) ∧ Below w.heap.size w w' := by
  have hsz := szStringS_any w w.heap.size a c n ss hn h hmax hs 1048576 (by omega) (by omega)
  have HSZ := hidden hsz
  have HV := hidden (fun (W : World) (hW : Below w.heap.size w W) => h.below hW)
  have HL := hidden hn
  have HS := hidden hs
  clear hsz h hn hs
  go_enter Try.func9, Try.ntmps9
  go_wp2_with fail
  refine HSZ.out.mono ?_
  clear HSZ
  rintro e _ ⟨r, rfl, rfl, hr0, hr1, hr2⟩
  by_cases hneg : r < 0
  · clear hr2
    go_wp2_with fail
    go_ret
    exact ⟨rfl, Below.refl _ _⟩
  obtain ⟨hr3, _⟩ := hr2 (by omega)
  have hn20 : n ≤ 1048576 := by rw [HL.out]; omega
  clear hr2 hr3
  have hto := hidden (toStringS_any w w.heap.size a c n ss HL.out (HV.out w (Below.refl _ _)) (Nat.le_refl _) hn20)
  go_wp2_with fail
  refine hto.out.mono ?_
  clear hto
  rintro e w1 ⟨rfl, hh1, hb1⟩
  have hv1 : Vals w1 (w.heap.size + 1) (some ⟨w.heap.size, 0, none⟩) (ss.map Value.string) := vals_of_has hh1 (Nat.lt_succ_self _)
  have hsp := nameTable'_any w1 (w.heap.size + 1) (some ⟨w.heap.size, 0, none⟩) n ss hv1 hh1.lt (by rw [← HL.out]; exact hmax) HS.out
  rw [← HL.out] at hsp
  have HSP := hidden hsp
  clear hsp hv1 hh1
  go_wp2_with fail
  refine HSP.out.mono ?_
  clear HSP
  rintro e w2 ⟨a2, c2, rfl, hc2, hm2, hi2, hb2⟩
  have hB2 : Below w.heap.size w w2 := hb1.trans (hb2.mono hb1.size)
  have hto := hidden (toStringS_any w2 w.heap.size a c n ss HL.out (HV.out w2 hB2) hB2.size hn20)
  have hlen := nameTab_401 ss
  have hwf := nameTab_wf ss
  have hno := fun (W : World) (g : Nat) (hW : Has W g 9 (ss.map Value.string).toArray) => nameTable_own W (g + 1) (some ⟨g, 0, none⟩) n ss (vals_of_has hW (Nat.lt_succ_self _)) hW.lt (by rw [← HL.out]; exact hmax) HS.out
  obtain ⟨l, hl⟩ : ∃ l, nameTab ss = l := ⟨_, rfl⟩
  rw [hl] at hc2 hi2 hlen hwf hno ⊢
  rw [← HL.out] at hno
  have HNO := hidden hno
  have HWF := hidden hwf
  obtain ⟨H, hH⟩ : ∃ H, w2.heap.size = H := ⟨_, rfl⟩
  rw [hH] at hi2 hto
  have HI2 := hidden (fun (W : World) (hW : Below H w2 W) => hi2.below hW)
  obtain ⟨k, hk⟩ : ∃ k, k = l.length := ⟨_, rfl⟩
  rw [← hk] at hc2 hlen ⊢
  have HK := hidden hk
  have HH := hidden hH
  have hwH : w.heap.size ≤ H := by rw [← hH]; exact hB2.size
  clear hno hwf hi2 hl hk hb1 hb2 hc2 hm2 hH
  go_wp2_with fail
  refine hto.out.mono ?_
  clear hto
  rintro e w3 ⟨rfl, hh3, hb3⟩
  have s3 := hh3.lt
  have HN3 := hidden (HNO.out w3 H hh3)
  go_wp2_with fail
  refine HN3.out.mono ?_
  clear HN3
  rintro e w4 hto4
  obtain ⟨a4, c4, g, rfl, _, hi4, hg4, hrow4, hb4⟩ := hto4.parts HWF.out
  have hb24 : Below H w2 w4 := hb3.trans (hb4.mono (by omega))
  have hB4 : Below w.heap.size w w4 := hB2.trans (hb24.mono hwH)
  have hh4 : Has w4 H 9 (ss.map Value.string).toArray := hh3.below hb4 s3
  have hgl : Hid (0 < k → g < w4.heap.size) := fun hkp => by
    rw [HK.out] at hkp
    obtain ⟨_, cs, hcs, _⟩ := hrow4 hkp
    exact hcs.lt
  have hgl' : ∀ hkp : 0 < k, g < w4.heap.size := hgl.out
  have HR4 := hidden hrow4
  have HI4 := hidden hi4
  have s4 := hb4.size
  rw [← HK.out]
  have heq := eqByteS_yes w4 w4.heap.size H a4 a2 c4 c2 l hi4 (HI2.out w4 hb24) (by rw [← HK.out]; omega)
  rw [← HK.out] at heq
  have HEQ := hidden heq
  clear heq hto4 hrow4 hi4 hb3 hb4 hh3 hgl'
  go_wp2_with fail
  refine HEQ.out.mono ?_
  clear HEQ
  rintro e _ ⟨rfl, m1, rfl⟩
  have hto := hidden (toStringS_any (w4.drewN m1) w.heap.size a c n ss HL.out (HV.out _ (below_drewN hB4 m1)) hB4.size hn20)
  go_wp2_with fail
  refine hto.out.mono ?_
  clear hto
  rintro e w5 ⟨rfl, hh5, hb5⟩
  have hb5' : Below w4.heap.size w4 w5 := ⟨hb5.os, hb5.tape, hb5.output, hb5.size, hb5.block⟩
  have hh5' : Has w5 w4.heap.size 9 (ss.map Value.string).toArray := hh5
  have hhx5 : Has w5 H 9 (ss.map Value.string).toArray := hh4.below hb5' hh4.lt
  have hes := hidden (eqStringS_yes w5 (H + 1) (w4.heap.size + 1) (some ⟨H, 0, none⟩) (some ⟨w4.heap.size, 0, none⟩) n n n ss HL.out (vals_of_has hhx5 (Nat.lt_succ_self _)) (vals_of_has hh5' (Nat.lt_succ_self _)) (by omega))
  clear hb5 hh5 hh5' hh4
  go_wp2_with fail
  refine hes.out.mono ?_
  clear hes
  rintro e _ ⟨rfl, m2, rfl⟩
  have hms := hidden (markStringS_own (w5.drewN m2) H n n (ss.map Value.string).toArray 1 (hhx5.drewN m2) (by rw [HL.out]; exact TextsS.of ss) (by omega) (by omega))
  go_wp2_with fail
  refine hms.out.mono ?_
  clear hms
  rintro e w7 ⟨rfl, hg7⟩
  have hg7' : w5.grownBy w7 (some H) := ⟨hg7.os, hg7.tape, hg7.output, hg7.size, hg7.block⟩
  have s5 := hb5'.size
  have s7 := hg7'.size
  have hb27 : Below H w2 w7 := (hb24.trans (hb5'.mono (by omega))).grown hg7' (by omega) (fun q hq => by injection hq with hq; omega)
  have hB7 : Below w.heap.size w w7 := hB2.trans (hb27.mono hwH)
  have hsame : Hid (0 < k → w7.heap[g]? = w4.heap[g]?) := fun hkp => by
    have h1 := hgl.out hkp
    exact (hg7'.block g (by omega) (fun e => by injection e with e; omega)).trans (hb5'.block g h1)
  have hi7 : Ints w7 .u8 w4.heap.size a4 l := by
    by_cases hkp : 0 < k
    · exact HI4.out.same (fun hp => (HR4.out hp).1) (hsame.out hkp)
    · exact ⟨HWF.out, fun hp => by rw [HK.out] at hkp; exact absurd hp hkp⟩
  have heq := eqByteS_yes w7 w4.heap.size H a4 a2 c4 c2 l hi7 (HI2.out w7 hb27) (by rw [← HK.out]; omega)
  rw [← HK.out] at heq
  have HEQ := hidden heq
  have hk1 : ¬ ((1 : Int) + (n : Int) < 0) := by omega
  clear heq hg7 hg7' hb5' hhx5 hi7 HI4
  go_wp2_with fail
  refine HEQ.out.mono ?_
  clear HEQ
  rintro e _ ⟨rfl, m3, rfl⟩
  have hmb := hidden (mark_wide (w7.drewN m3) g k c4 a4 1 (fun hkp => by
    have hkl := hkp
    rw [HK.out] at hkl
    obtain ⟨ha, cs, hcs, hsz⟩ := HR4.out hkl
    exact ⟨ha, cs, (hsame.out hkp).trans hcs, by rw [HK.out]; exact hsz⟩) (by omega) (by omega))
  clear hk1
  go_wp2_with fail
  refine hmb.out.mono ?_
  clear hmb
  rintro e w8 ⟨rfl, hmk, hg8⟩
  have hg8' : w7.grownBy w8 (some g) := ⟨hg8.os, hg8.tape, hg8.output, hg8.size, hg8.block⟩
  have s8 := hg8'.size
  have hb28 : Below H w2 w8 := hb27.grown hg8' (by omega) (fun q hq => by injection hq with hq; omega)
  have hB8 : Below w.heap.size w w8 := hB2.trans (hb28.mono hwH)
  have hmark : Hid (0 < k → a4 = some ⟨g, 0, none⟩ ∧ g < w8.heap.size ∧ ∀ j, j < k → w8.cell? ⟨g, j, none⟩ = some (.int .u8 ((1 + (j : Nat)) % 256))) := fun hkp => by
    obtain ⟨cs, hcs, hj⟩ := hmk hkp
    exact ⟨(HR4.out (by rw [← HK.out]; exact hkp)).1, hcs.lt, fun j hjk => by rw [hcs.cell]; exact hj j hjk⟩
  have hhb := hidden (held_wide w8 g k c4 a4 1 (fun hkp => ⟨(hmark.out hkp).1, (hmark.out hkp).2.2⟩) (by omega) (by omega))
  have hto := hidden (toStringS_any w8 w.heap.size a c n ss HL.out (HV.out w8 hB8) hB8.size hn20)
  have hk2 : ¬ ((1 : Int) + (k : Int) < 0) := by omega
  have hk3 : (((1 : Int) + (k : Int)) != ((1 : Int) + (k : Int))) = false := by simp
  clear hmk hg8 hg8' HR4 hsame hgl
  go_wp2_with fail
  refine hhb.out.mono ?_
  clear hhb
  rintro e _ ⟨rfl, rfl⟩
  go_wp2_with fail
  refine hto.out.mono ?_
  clear hto
  rintro e w9 ⟨rfl, hh9, hb9⟩
  have HN9 := hidden (HNO.out w9 w8.heap.size hh9)
  go_wp2_with fail
  refine HN9.out.mono ?_
  clear HN9
  rintro e w10 hto10
  obtain ⟨a10, c10, rfl, _, _, hi10, hb10⟩ := hto10.tabled HWF.out
  have s9 := hb9.size
  have hb8_10 : Below w8.heap.size w8 w10 := hb9.trans (hb10.mono s9)
  have hb210 : Below H w2 w10 := hb28.trans (hb8_10.mono (by omega))
  have hB10 : Below w.heap.size w w10 := hB2.trans (hb210.mono hwH)
  rw [← HK.out]
  have heq := eqByteS_yes w10 w10.heap.size H a10 a2 c10 c2 l hi10 (HI2.out w10 hb210) (by rw [← HK.out]; omega)
  rw [← HK.out] at heq
  have HEQ := hidden heq
  clear heq hto10 hi10 hb9 hb10 hh9
  go_wp2_with fail
  refine HEQ.out.mono ?_
  clear HEQ
  rintro e _ ⟨rfl, m4, rfl⟩
  have hhb := hidden (held_wide (w10.drewN m4) g k c4 a4 1 (fun hkp => ⟨(hmark.out hkp).1, fun j hj => (hb8_10.cell (p := ⟨g, j, none⟩) (hmark.out hkp).2.1).trans ((hmark.out hkp).2.2 j hj)⟩) (by omega) (by omega))
  have hfin := hidden (below_drewN hB10 m4)
  clear hb210 hB10 hb8_10
  go_wp2_with fail
  refine hhb.out.mono ?_
  clear hhb
  rintro e _ ⟨rfl, rfl⟩
  go_wp2_with fail
  go_ret
  exact ⟨rfl, hfin.out⟩

end Go.Proofs.Ytdaddhliedocaaa

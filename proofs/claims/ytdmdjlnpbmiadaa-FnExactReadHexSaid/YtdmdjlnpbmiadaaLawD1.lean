/-
  What is wanted of impl.HexText and impl.ReadHex; the walks of FnExactHexText and FnExactReadHex.
-/
import Derived.Test.YtdmdjlnpbmiadaaDumpH
import Derived.Test.YtdmdjlnpbmiadaaMarks
import Derived.Test.YtdmdjlnpbmiadaaBase
import Derived.Deep.RegionWith
namespace Go.Proofs.Ytdmdjlnpbmiadaa
open Go.RowKit

def WantHexText : Prop := ∀ (w : World) (B : Nat) (a : Option Addr) (c : Nat) (l : List Int), Ints w .u8 B a l → B ≤ w.heap.size → l.length ≤ 2000000 → l.length ≤ c → c ≤ 9223372036854775807 →
  Calls Try.prog 8 #[.slice a l.length c] w fun e w' => e = .returned (.string (strOfNums (hexL l))) ∧ Below w.heap.size w w'
def WantReadHex : Prop := ∀ (w : World) (s : ByteArray), s.size ≤ 1200000 → Calls Try.prog 10 #[.string s] w (HexS w (numsOf s))
theorem rhx_wf (t : List Int) : ∀ x ∈ (rhx t).1, (Lit.int .u8 x).wf = true := fun x hx => by
  unfold rhx at hx
  split at hx
  · rename_i l hl
    exact wf_u8.mpr ((rdHexL_some t l hl).2 x hx)
  · cases hx
theorem HexS.parts {w : World} {t : List Int} {e : Ending} {w' : World} (h : HexS w t e w') :
    ∃ (a : Option Addr) (c g : Nat), e = .returned (.tuple #[.slice a (rhx t).1.length c, .bool (rhx t).2]) ∧ (rhx t).1.length ≤ c ∧ c ≤ maxLen ∧ Ints w' .u8 w'.heap.size a (rhx t).1 ∧ w.heap.size ≤ g ∧ (0 < (rhx t).1.length → a = some ⟨g, 0, none⟩ ∧ ∃ cs, Has w' g 5 cs ∧ (rhx t).1.length ≤ cs.size) ∧ Below w.heap.size w w' := by
  obtain ⟨v, rfl, hrow, hb⟩ := h
  have hR : RowB w (rhx t).1 (.returned v) w' := ⟨v, rfl, hrow, hb⟩
  obtain ⟨a, c, g, he, h1, h2, h3, h4, h5, h6⟩ := hR.parts (rhx_wf t)
  injection he with he
  subst he
  exact ⟨a, c, g, rfl, h1, h2, h3, h4, h5, h6⟩
theorem rhx_length (t : List Int) : 2 * (rhx t).1.length ≤ t.length := by
  unfold rhx
  split
  · rename_i l hl
    have h1 := (rdHexL_some t l hl).1
    rw [← h1, hexL_length]; exact Nat.le_refl _
  · simp
set_option maxRecDepth 100000 in
set_option maxHeartbeats 4000000 in
theorem law_ExactHexText (hW : WantHexText) (w : World) (a : Option Addr) (len cap : Nat) (h : ∃ l, Ints w .u8 w.heap.size a l ∧ l.length = len ∧ len ≤ 9223372036854775807) :
    Calls Try.prog 5 #[.slice a len cap] w fun e w' => e = .returned (.bool true) ∧ Below w.heap.size w w' := by
  obtain ⟨l, h, rfl, hmax⟩ := h
  by_cases hbig : 1048576 < l.length
  · have hd : (1048576 : Int) < (l.length : Int) := by omega
    go_enter Try.func5, Try.ntmps5
    go_wp2
    go_ret
    exact ⟨rfl, Below.refl _ _⟩
  have hd : ¬ (1048576 : Int) < (l.length : Int) := by omega
  obtain ⟨n, hn⟩ : ∃ n, l.length = n := ⟨_, rfl⟩
  have HTB : Hid (∀ W, Below w.heap.size w W → Calls Try.prog 15 #[.slice a n cap] W fun e w' => e = .returned (.slice (some ⟨W.heap.size, 0, none⟩) n n) ∧ Has w' W.heap.size 5 (l.map (Value.int .u8)).toArray ∧ Below W.heap.size W w') := fun W hB => by
    have := toByteS_any W w.heap.size a cap l (h.below hB) hB.size (by omega)
    rwa [hn] at this
  obtain ⟨T, hT⟩ : ∃ T, strOfNums (hexL l) = T := ⟨_, rfl⟩
  have HSP : Hid (∀ (W : World) (k : Nat), Has W k 5 (l.map (Value.int .u8)).toArray → Calls Try.prog 9 #[.slice (some ⟨k, 0, none⟩) n n] W fun e w' => e = .returned (.string T) ∧ Below W.heap.size W w') := fun W k hk => by
    have := hexText'_any W (k + 1) (some ⟨k, 0, none⟩) n n l hn.symm (Ints.ofHas hk rfl h.1 (Nat.lt_succ_self _)) hk.lt (by omega)
    rwa [hT] at this
  have HIM : Hid (∀ (W : World) (k : Nat), Has W k 5 (l.map (Value.int .u8)).toArray → Calls Try.prog 8 #[.slice (some ⟨k, 0, none⟩) n n] W fun e w' => e = .returned (.string T) ∧ Below W.heap.size W w') := fun W k hk => by
    have := hW W (k + 1) (some ⟨k, 0, none⟩) n l (Ints.ofHas hk rfl h.1 (Nat.lt_succ_self _)) hk.lt (by omega) (by omega) (by omega)
    rwa [hT, hn] at this
  have HEB : Hid (∀ (W : World) (k k' : Nat), Has W k 5 (l.map (Value.int .u8)).toArray → Has W k' 5 (l.map (Value.int .u8)).toArray → Calls Try.prog 16 #[.slice (some ⟨k, 0, none⟩) n n, .slice (some ⟨k', 0, none⟩) n n] W fun e w' => e = .returned (.bool true) ∧ ∃ n, w' = W.drewN n) := fun W k k' hk hk' => by
    have := eqByteS_yes W (k + 1) (k' + 1) (some ⟨k, 0, none⟩) (some ⟨k', 0, none⟩) n n l (Ints.ofHas hk rfl h.1 (Nat.lt_succ_self _)) (Ints.ofHas hk' rfl h.1 (Nat.lt_succ_self _)) (by omega)
    rwa [hn] at this
  have hss : (T.toList == T.toList) = true := beq_self_eq_true _
  rw [hn] at hd ⊢
  clear h hbig hn hW hT
  go_enter Try.func5, Try.ntmps5
  go_wp2_with fail
  refine (HTB.out w (Below.refl _ _)).mono ?_
  rintro e w1 ⟨rfl, hh1, hb1⟩
  have HS1 := hidden (HSP.out w1 _ hh1)
  have HB1 := hidden hb1
  clear HSP hh1 hb1
  go_wp2_with fail
  refine HS1.out.mono ?_
  clear HS1
  rintro e w2 ⟨rfl, hb2⟩
  have HB2 := hidden (HB1.out.trans (hb2.mono HB1.out.size))
  have HT2 := hidden (HTB.out w2 HB2.out)
  clear hb2 HB1
  go_wp2_with fail
  refine HT2.out.mono ?_
  clear HT2
  rintro e w3 ⟨rfl, hh3, hb3⟩
  obtain ⟨x, hx⟩ : ∃ q, w2.heap.size = q := ⟨_, rfl⟩
  rw [hx] at hh3 ⊢
  have HB3 := hidden (HB2.out.trans (hb3.mono HB2.out.size))
  have HI3 := hidden (HIM.out w3 _ hh3)
  have HH3 := hidden hh3
  clear hb3 hh3 hx HB2 HIM
  go_wp2_with fail
  refine HI3.out.mono ?_
  clear HI3
  rintro e w4 ⟨rfl, hb4⟩
  have HB4 := hidden (HB3.out.trans (hb4.mono HB3.out.size))
  have HH4 := hidden (HH3.out.below hb4 HH3.out.lt)
  have HT4 := hidden (HTB.out w4 HB4.out)
  clear hb4 HB3 HH3 HTB
  go_wp2_with fail
  refine HT4.out.mono ?_
  clear HT4
  rintro e w5 ⟨rfl, hh5, hb5⟩
  have HE5 := hidden (HEB.out w5 x _ (HH4.out.below hb5 HH4.out.lt) hh5)
  have HB5 := hidden (HB4.out.trans (hb5.mono HB4.out.size))
  clear hh5 hb5 HB4 HH4 HEB
  go_wp2_with fail
  refine HE5.out.mono ?_
  clear HE5
  rintro e _ ⟨rfl, m, rfl⟩
  have HF := hidden (below_drewN HB5.out m)
  clear HB5
  go_wp2_with fail
  go_ret
  exact ⟨rfl, HF.out⟩
set_option maxRecDepth 100000 in
set_option maxHeartbeats 4000000 in
theorem law_ExactReadHex (hW : WantReadHex) (w : World) (s : ByteArray) (_ : s.size ≤ maxLen) :
    Calls Try.prog 6 #[.string s] w fun e w' => e = .returned (.bool true) ∧ Below w.heap.size w w' := by
  by_cases hbig : 1048576 < s.size
  · have hd : (1048576 : Int) < (s.size : Int) := by omega
    go_enter Try.func6, Try.ntmps6
    go_wp2
    go_ret
    exact ⟨rfl, Below.refl _ _⟩
  have hd : ¬ (1048576 : Int) < (s.size : Int) := by omega
  have HS := hidden (fun W => readHex'_any W s (by omega))
  have HI := hidden (fun W => hW W s (by omega))
  obtain ⟨t, ht⟩ : ∃ t, numsOf s = t := ⟨_, rfl⟩
  have hlen : 2 * (rhx t).1.length ≤ 1048576 := by have := rhx_length t; have h2 := numsOf_length s; rw [ht] at h2; omega
  rw [ht] at HS HI
  obtain ⟨l, hl⟩ : ∃ l, (rhx t).1 = l := ⟨_, rfl⟩
  obtain ⟨ok, hok⟩ : ∃ ok, (rhx t).2 = ok := ⟨_, rfl⟩
  obtain ⟨k, hk⟩ : ∃ k, l.length = k := ⟨_, rfl⟩
  have HP : Hid (∀ (W : World) (e : Ending) (W' : World), HexS W t e W' → ∃ (a : Option Addr) (c g : Nat), e = .returned (.tuple #[.slice a k c, .bool ok]) ∧ k ≤ c ∧ c ≤ maxLen ∧ Ints W' .u8 W'.heap.size a l ∧ W.heap.size ≤ g ∧ (0 < k → a = some ⟨g, 0, none⟩ ∧ ∃ cs, Has W' g 5 cs ∧ k ≤ cs.size) ∧ Below W.heap.size W W') := fun W e W' h => by
    have := h.parts
    rwa [hl, hok, hk] at this
  rw [hl, hk] at hlen
  have HEQ : Hid (∀ (W : World) (B1 B2 : Nat) (a1 a2 : Option Addr) (c1 c2 : Nat), Ints W .u8 B1 a1 l → Ints W .u8 B2 a2 l → Calls Try.prog 16 #[.slice a1 k c1, .slice a2 k c2] W fun e w' => e = .returned (.bool true) ∧ ∃ n, w' = W.drewN n) := fun W B1 B2 a1 a2 c1 c2 h1 h2 => by
    have := eqByteS_yes W B1 B2 a1 a2 c1 c2 l h1 h2 (by omega)
    rwa [hk] at this
  have hoo : (ok != ok) = false := by simp
  clear hbig hW ht hl hok hk
  go_enter Try.func6, Try.ntmps6
  go_wp2_with fail
  refine (HS.out w).mono ?_
  clear HS
  intro e w2 hr2
  obtain ⟨a2, c2, g2, rfl, _, _, hi2, _, _, hb2⟩ := HP.out _ _ _ hr2
  have HI2 := hidden (fun (W : World) (hW : Below w2.heap.size w2 W) => hi2.below hW)
  have HB2 := hidden hb2
  clear hr2 hi2 hb2
  go_wp2_with fail
  refine (HI.out w2).mono ?_
  intro e w4 hr4
  obtain ⟨a4, c4, g, rfl, _, _, hi4, hg4, hrow4, hb4⟩ := HP.out _ _ _ hr4
  have HB4 := hidden (HB2.out.trans (hb4.mono HB2.out.size))
  have HB24 := hidden hb4
  have HROW := hidden hrow4
  have HE4 := hidden (HEQ.out w4 w4.heap.size w2.heap.size a4 a2 c4 c2 hi4 (HI2.out w4 hb4))
  clear hr4 hi4 hrow4 hb4
  go_wp2_with fail
  refine HE4.out.mono ?_
  clear HE4
  rintro e _ ⟨rfl, m1, rfl⟩
  have hmb := hidden (mark_wide (w4.drewN m1) g k c4 a4 1 (fun hkp => by
    obtain ⟨ha, cs, hcs, hsz⟩ := HROW.out hkp
    exact ⟨ha, cs, hcs.drewN m1, hsz⟩) (by omega) (by omega))
  go_wp2_with fail
  refine hmb.out.mono ?_
  clear hmb
  rintro e w8 ⟨rfl, hmk, hg8⟩
  have hg8' : w4.grownBy w8 (some g) := ⟨hg8.os, hg8.tape, hg8.output, hg8.size, hg8.block⟩
  have hb28 : Below w2.heap.size w2 w8 := HB24.out.grown hg8' HB24.out.size (fun q hq => by injection hq with hq; omega)
  have HB28 := hidden hb28
  have hmark : Hid (0 < k → a4 = some ⟨g, 0, none⟩ ∧ g < w8.heap.size ∧ ∀ j, j < k → w8.cell? ⟨g, j, none⟩ = some (.int .u8 ((1 + (j : Nat)) % 256))) := fun hkp => by
    obtain ⟨cs, hcs, hj⟩ := hmk hkp
    exact ⟨(HROW.out hkp).1, hcs.lt, fun j hjk => by rw [hcs.cell]; exact hj j hjk⟩
  have hhb := hidden (held_wide w8 g k c4 a4 1 (fun hkp => ⟨(hmark.out hkp).1, (hmark.out hkp).2.2⟩) (by omega) (by omega))
  have hk2 : ¬ ((1 : Int) + (k : Int) < 0) := by omega
  have hk3 : (((1 : Int) + (k : Int)) != ((1 : Int) + (k : Int))) = false := by simp
  clear hmk hg8 hg8' HROW HB4 HB24 hb28
  go_wp2_with fail
  refine hhb.out.mono ?_
  clear hhb
  rintro e _ ⟨rfl, rfl⟩
  go_wp2_with fail
  refine (HI.out w8).mono ?_
  clear HI
  intro e w10 hr10
  obtain ⟨a10, c10, g10, rfl, _, _, hi10, _, _, hb10⟩ := HP.out _ _ _ hr10
  have HB210 := hidden (HB28.out.trans (hb10.mono HB28.out.size))
  have HB810 := hidden hb10
  have HE10 := hidden (HEQ.out w10 w10.heap.size w2.heap.size a10 a2 c10 c2 hi10 (HI2.out w10 HB210.out))
  clear hr10 hi10 hb10
  go_wp2_with fail
  refine HE10.out.mono ?_
  clear HE10
  rintro e _ ⟨rfl, m4, rfl⟩
  have hhb := hidden (held_wide (w10.drewN m4) g k c4 a4 1 (fun hkp => ⟨(hmark.out hkp).1, fun j hj => (HB810.out.cell (p := ⟨g, j, none⟩) (hmark.out hkp).2.1).trans ((hmark.out hkp).2.2 j hj)⟩) (by omega) (by omega))
  have hfin := hidden (below_drewN (HB2.out.trans (HB210.out.mono HB2.out.size)) m4)
  clear HB210 HB810
  go_wp2_with fail
  refine hhb.out.mono ?_
  clear hhb
  rintro e _ ⟨rfl, rfl⟩
  go_wp2_with fail
  go_ret
  exact ⟨rfl, hfin.out⟩
end Go.Proofs.Ytdmdjlnpbmiadaa

/-
  Contract of the draw of a table and a name.
-/
import Derived.Test.YtdaddhliedocaaaDrawT
import Derived.RegionTactic
import Derived.Deep.RegionWith
namespace Go.Proofs.Ytdaddhliedocaaa
open Go.RowKit

theorem Vals.pastRd {w w' : World} {B g C : Nat} {P : Int} {a : Option Addr} {ss : List ByteArray} (hr : Rd w B g P) (h : Vals w C a (ss.map Value.string)) (hg : w.grownBy w' (some g)) (hC : C ≤ w.heap.size) : Vals w' C a (ss.map Value.string) := by
  intro hn
  obtain ⟨b, off, ha, hb, hc⟩ := h hn
  refine ⟨b, off, ha, hb, fun i u hi => ?_⟩
  have hne : b ≠ g := by
    rintro rfl
    obtain ⟨_, _, _, _, _, hh, _⟩ := hr
    have h0 := hc i u hi
    rw [hh.cell] at h0
    rw [List.getElem?_map] at hi
    obtain ⟨s, _, rfl⟩ := Option.map_eq_some_iff.1 hi
    generalize off + i = q at h0
    match q, h0 with
    | 0, h0 => simp at h0
    | 1, h0 => simp at h0
    | q + 2, h0 => simp at h0
  exact (World.cell?_of_block (hg.block b (by omega) (fun e => hne (by injection e)))).trans (hc i u hi)
/-- What the draw of a table and a name leaves. -/
def DrawnPlaceOf (w : World) (e : Ending) (w' : World) : Prop :=
  ∃ (a : Option Addr) (c : Nat) (l : List Int) (s : ByteArray), e = .returned (.tuple #[.slice a l.length c, .string s]) ∧ l.length ≤ c ∧ c ≤ maxLen ∧ Ints w' .u8 w'.heap.size a l ∧ l.length ≤ 401 ∧ s.size ≤ 9 ∧ Below w.heap.size w w'
set_option maxHeartbeats 4000000 in
theorem drawPlaceOf_any (w : World) (a : Option Addr) (cap : Nat) (l : List Int) (h : Ints w .u8 w.heap.size a l) (hcap : l.length ≤ cap) (hlen : cap ≤ 9223372036854775807) :
    Calls Try.prog 24 #[.slice a l.length cap] w (DrawnPlaceOf w) := by
  go_enter Try.func24, Try.ntmps24
  go_wp2_with fail
  refine (l20Open_any w a cap l h hcap hlen).mono ?_
  rintro e w1 ⟨rfl, hr1, hb1⟩
  clear h
  go_wp2_with fail
  refine (l20Names_any _ w.heap.size w.heap.size 0 0 hr1 (by omega) (by omega) (by omega)).mono ?_
  rintro e w2 ⟨v, ss, rfl, hown, hs9, hl7, hr2, hg2⟩
  have hb2 := hb1.grown hg2 hb1.size (by simp)
  have hown' : w2.ownsRow w1.heap.size 9 1 v (ss.map Value.string).length (ss.map Value.string) := by simpa using hown
  obtain ⟨a2, c2, rfl, hc2, hv2⟩ := vals_of_own hown'
  have hnt := nameTable'_any w2 w2.heap.size a2 c2 ss hv2 (Nat.le_refl _) (by omega) (fun x hx => by have := hs9 x hx; unfold maxLen; omega)
  have hlm : (ss.map Value.string).length = ss.length := by simp
  rw [hlm]
  have hsh := nameTab_short hs9
  have HNT := hidden hnt
  have s2 := hr2.lt
  have HS9 := hidden hs9
  clear hown hown' hg2 hr1 hb1 hnt hlm hs9
  go_wp2_with fail
  refine HNT.out.mono ?_
  clear HNT
  rintro e w3 ⟨a3, c3, rfl, hc3, hm3, hi3, hb3⟩
  have hr3 := hr2.below hb3 s2
  have hv3 := (hv2.below hb3).more hb3.size
  have hbw3 := hb2.trans (hb3.mono hb2.size)
  obtain ⟨T, hT⟩ : ∃ T, nameTab ss = T := ⟨_, rfl⟩
  rw [hT] at hc3 hi3 hsh ⊢
  obtain ⟨q, hq⟩ : ∃ q, q = ss.length := ⟨_, rfl⟩
  have HQ := hidden hq
  rw [← hq] at hl7 ⊢
  have tail : ∀ (s : ByteArray) (w5 : World), s.size ≤ 9 → w3.grownBy w5 (some w.heap.size) → DrawnPlaceOf w (.returned (.tuple #[.slice a3 T.length c3, .string s])) w5 := fun s w5 hs hg5 =>
    ⟨a3, c3, T, s, rfl, hc3, hm3, (Ints.pastRd hr3 hi3 hg5 (Nat.le_refl _)).more hg5.size, hsh, hs, hbw3.grown hg5 hbw3.size (by simp)⟩
  have HT := hidden tail
  have HV := hidden hv3
  have HR := hidden hr3
  clear hb3 hr2 hT hb2 hv2 hi3 hv3 tail hq hr3 hbw3
  have name : ∀ (W : World) (P : Int), P ≤ 900000 → Rd W w.heap.size w.heap.size P → Calls Try.prog 34 #[.pointer (some ⟨w.heap.size, 0, none⟩), .int .i64 4] W (DrawnName W w.heap.size w.heap.size P) := fun W P hP hr => l20Name_any W _ _ P 4 hr hP (by omega) (by omega)
  have HNM := hidden name
  clear name
  by_cases hz : q = 0
  · have hz' : ¬ (0 : Int) < (q : Int) := by omega
    clear hz
    go_wp2_with fail
    refine (HNM.out w3 _ (by omega) HR.out).mono ?_
    rintro e w5 ⟨s, rfl, hs, hr5, hg5⟩
    have hfin := hidden (HT.out s w5 hs hg5)
    clear hr5 hg5
    go_wp2_with fail
    go_ret2
    exact hfin.out
  · have hz' : (0 : Int) < (q : Int) := by omega
    have hqi : (q : Int) ≤ 7 := by omega
    go_wp2_with fail
    refine (pick_any w3 w.heap.size w.heap.size _ 3 HR.out (by omega) (by omega) (by omega)).mono ?_
    rintro e w4 ⟨y, rfl, y0, y1, hr4, hg4⟩
    have HV4 := hidden (Vals.pastRd HR.out HV.out hg4 (Nat.le_refl _))
    have HR4 := hidden hr4
    have HG4 := hidden hg4
    have s4 := hg4.size
    clear hr4 hg4
    by_cases hy : 0 < y
    · clear hz
      obtain ⟨bb, oo, rfl, hbb, _⟩ := HV4.out (by rw [List.length_map, ← HQ.out]; omega)
      have hcl : ∀ (w6 : World), w4.drew.grownBy w6 (some w.heap.size) → ∀ i, i < q → ∃ s, w6.cell? ⟨bb, oo + i, none⟩ = some (.string s) ∧ s.size ≤ 9 := fun w6 hg6 i hi => by
        have hg6' : w4.grownBy w6 (some w.heap.size) := ⟨hg6.os, hg6.tape, hg6.output, hg6.size, hg6.block⟩
        have hil : i < ss.length := by rw [← HQ.out]; exact hi
        obtain ⟨b', o', he, _, hc⟩ := (Vals.pastRd HR4.out HV4.out hg6' s4).at_ (i := i) (by simpa using hil)
        injection he with he
        injection he with h1 h2 _
        subst h1
        subst h2
        exact ⟨ss[i], by rw [hc]; simp, HS9.out _ (List.getElem_mem hil)⟩
      have HCL := hidden hcl
      have PK := hidden (pick_any w4.drew w.heap.size w.heap.size _ (q : Int) (show Rd w4.drew _ _ _ from HR4.out) (by omega) (by omega) (by omega))
      clear hcl
      go_wp2_with fail
      go_region_with ((go_at_call 49; go_loud (refine PK.out.mono ?_; rintro e w6 ⟨x, rfl, x0, x1, hr6, hg6⟩; obtain ⟨i, rfl⟩ := Int.eq_ofNat_of_zero_le x0; obtain ⟨s, hcc, hs⟩ := HCL.out w6 hg6 i (by omega))))
      all_goals (go_wp2_with fail)
      all_goals go_ret2
      all_goals exact HT.out _ _ (by assumption) (only_trans HG4.out ⟨hg6.os, hg6.tape, hg6.output, hg6.size, hg6.block⟩)
    · have hy' : ¬ 0 < y := hy
      clear hz hy
      go_wp2_with fail
      refine (HNM.out w4 _ (by omega) HR4.out).mono ?_
      rintro e w5 ⟨s, rfl, hs, hr5, hg5⟩
      have hfin := hidden (HT.out s w5 hs (only_trans HG4.out hg5))
      clear hr5 hg5
      go_wp2_with fail
      go_ret2
      exact hfin.out

end Go.Proofs.Ytdaddhliedocaaa

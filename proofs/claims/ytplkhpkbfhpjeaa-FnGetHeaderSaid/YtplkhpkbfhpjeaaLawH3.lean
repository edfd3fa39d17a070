/-
  The walks of FnGetHeader and FnPutHeader, over what is wanted of the program.
-/
import Derived.Test.YtplkhpkbfhpjeaaDrawHV
import Derived.Test.YtplkhpkbfhpjeaaWant5
import Derived.Test.YtplkhpkbfhpjeaaMem
import Derived.Test.YtplkhpkbfhpjeaaSame
import Derived.Deep.RegionWith
namespace Go.Proofs.Ytplkhpkbfhpjeaa
open Go.RowKit

theorem sameBytes_n (w : World) (B1 B2 : Nat) (a1 a2 : Option Addr) (c1 c2 n : Nat) (l : List Int) (hn : n = l.length) (h1 : Ints w .u8 B1 a1 l) (h2 : Ints w .u8 B2 a2 l) (hlen : n ≤ 9223372036854775807) :
    Calls Try.prog 10 #[.slice a1 n c1, .slice a2 n c2] w fun e w' => e = .returned (.bool true) ∧ ∃ n, w' = w.drewN n := by
  subst hn; exact sameBytes_yes w B1 B2 a1 a2 c1 c2 l h1 h2 hlen
theorem isHd_parts {t : List Int} (h : isHd t = true) : 10 ≤ t.length ∧ t.take 10 = putHd (getHd t) := by
  have e : getHd t = hdAt t := by unfold getHd; rw [if_pos h]
  rw [e]
  unfold isHd at h
  simp only [Bool.and_eq_true, decide_eq_true_eq] at h
  exact h
theorem getD_u8 {t : List Int} (hwf : ∀ x ∈ t, (Lit.int .u8 x).wf = true) (i : Nat) : 0 ≤ t.getD i 0 ∧ t.getD i 0 ≤ 255 := by
  rw [List.getD_eq_getElem?_getD]
  rcases h : t[i]? with _ | x
  · simp
  · obtain ⟨hi, hx⟩ := List.getElem?_eq_some_iff.1 h
    have := wf_u8.mp (hwf x (by rw [← hx]; exact List.getElem_mem hi))
    simp only [Option.getD_some]
    omega
theorem getHd_fits {t : List Int} (hwf : ∀ x ∈ t, (Lit.int .u8 x).wf = true) : (getHd t).fits := by
  unfold getHd
  split
  · have h4 := getD_u8 hwf 4
    have h5 := getD_u8 hwf 5
    have h6 := getD_u8 hwf 6
    have h7 := getD_u8 hwf 7
    have h8 := getD_u8 hwf 8
    have hv : -1 ≤ getVal t 7 2 ∧ getVal t 7 2 ≤ 65535 := by
      have e : getVal t 7 2 = -1 ∨ getVal t 7 2 = t.getD 7 0 + 256 * t.getD 8 0 := by
        unfold getVal
        rw [if_neg (by decide), if_neg (by decide)]
        split
        · exact .inl rfl
        · exact .inr rfl
      omega
    exact ⟨⟨by show _ ≤ t.getD 4 0; omega, by show t.getD 4 0 ≤ _; omega⟩, ⟨by show _ ≤ t.getD 5 0; omega, by show t.getD 5 0 ≤ _; omega⟩, ⟨by show _ ≤ t.getD 6 0; omega, by show t.getD 6 0 ≤ _; omega⟩, ⟨by show _ ≤ getVal t 7 2; omega, by show getVal t 7 2 ≤ _; omega⟩⟩
  · exact ⟨⟨by decide, by decide⟩, ⟨by decide, by decide⟩, ⟨by decide, by decide⟩, ⟨by decide, by decide⟩⟩
theorem Hd.small.fits {m : Hd} (h : m.small) : m.fits :=
  have := h.sec0; have := h.sec1; have := h.sym0; have := h.sym1; have := h.fix0; have := h.fix1; have := h.nam0; have := h.nam1
  ⟨⟨by omega, by omega⟩, ⟨by omega, by omega⟩, ⟨by omega, by omega⟩, ⟨by omega, by omega⟩⟩
theorem putHd_back {m : Hd} (h : hdOk m = true) : isHd (putHd m ++ [7, 8, 9]) = true ∧ getHd (putHd m ++ [7, 8, 9]) = m := by
  obtain ⟨h1, h2, h3, h4⟩ := hdOk_iff.1 h
  have e : putHd m = [111, 98, 106, 1, m.sec, m.sym, m.fix, m.nam % 256, m.nam / 256, 0] := by unfold putHd; rw [if_pos h]
  have ha : hdAt (putHd m ++ [7, 8, 9]) = m := by
    unfold hdAt
    rw [e]
    have hv : getVal ([111, 98, 106, 1, m.sec, m.sym, m.fix, m.nam % 256, m.nam / 256, 0] ++ [7, 8, 9]) 7 2 = m.nam := by
      have : getVal ([111, 98, 106, 1, m.sec, m.sym, m.fix, m.nam % 256, m.nam / 256, 0] ++ [7, 8, 9]) 7 2 = m.nam % 256 + 256 * (m.nam / 256) := rfl
      rw [this]; omega
    rw [hv]
    rfl
  have hi : isHd (putHd m ++ [7, 8, 9]) = true := by
    unfold isHd
    rw [ha, e]
    simp
  refine ⟨hi, ?_⟩
  unfold getHd
  rw [if_pos hi, ha]
set_option maxRecDepth 100000 in
set_option maxHeartbeats 2000000 in
theorem law_GetHeader (hG : WantGetHeader) (hP : WantPutHeader) (w : World) (a0 : Option Addr) (len cap : Nat) (h : Came w a0 len cap) :
    Calls Try.prog 4 #[.slice a0 len cap] w fun e w' => e = .returned (.bool true) ∧ Below w.heap.size w w' := by
  obtain ⟨l0, h, rfl, hcap, hmax⟩ := h
  by_cases hbig : 1048576 < l0.length
  · have hd : (1048576 : Int) < (l0.length : Int) := by omega
    go_enter Try.func4, Try.ntmps4
    go_wp2
    go_ret
    exact ⟨rfl, Below.refl _ _⟩
  have hd : ¬ (1048576 : Int) < (l0.length : Int) := by omega
  have HD := hidden (drawGetHeader_any w a0 cap l0 h hcap hmax)
  clear h
  go_enter Try.func4, Try.ntmps4
  go_wp2_with fail
  refine HD.out.mono ?_
  clear HD
  rintro e w1 ⟨tb, tc, t, rfl, ht11, htc, htm, hi1, hb1⟩
  have HGI : Hid (∀ W, Below w1.heap.size w1 W → Calls Try.prog 14 #[.slice tb t.length tc] W fun e w' => e = .returned (.tuple #[(getHd t).agg, .bool (isHd t)]) ∧ Below W.heap.size W w') := fun W hB => hG W w1.heap.size tb tc t (hi1.below hB) hB.size (by omega) htc
  have HGS : Hid (∀ W, Below w1.heap.size w1 W → Calls Try.prog 16 #[.slice tb t.length tc] W fun e w' => e = .returned (.tuple #[(getHd t).agg, .bool (isHd t)]) ∧ Below W.heap.size W w') := fun W hB => getHeader'_any W w1.heap.size tb tc t.length t rfl (hi1.below hB) hB.size (by omega)
  have HPI : Hid (∀ W, Calls Try.prog 9 #[(getHd t).agg] W (RowB W (putHd (getHd t)))) := fun W => hP W (getHd t) (getHd_fits hi1.1)
  have HNO : Hid (isHd t = false → getHd t = noHd) := fun e => by unfold getHd; rw [e]; rfl
  have HYS : Hid (isHd t = true → 10 ≤ t.length ∧ t.take 10 = putHd (getHd t)) := isHd_parts
  have HI1 := hidden hi1
  obtain ⟨ok, hok⟩ : ∃ q, isHd t = q := ⟨_, rfl⟩
  obtain ⟨g, hg⟩ : ∃ q, getHd t = q := ⟨_, rfl⟩
  obtain ⟨n, hn⟩ : ∃ q, t.length = q := ⟨_, rfl⟩
  rw [hok, hg, hn] at HGI HGS
  rw [hg] at HPI
  rw [hok, hg] at HNO
  rw [hok, hg, hn] at HYS
  rw [hn] at ht11 htc ⊢
  have HN := hidden hn
  have HPW := hidden (putHd_wf g)
  obtain ⟨a, b, c, d⟩ := g
  unfold Hd.agg at HGI HGS HPI
  have hC1 : Below w1.heap.size w1 w1 := Below.refl _ _
  clear hi1 hok hg hn hG hP
  go_wp2_with fail
  refine (HGI.out w1 hC1).mono ?_
  clear HGI
  rintro e w2 ⟨rfl, hb2⟩
  have hC2 : Below w1.heap.size w1 (w2.alloc (.cells #[.int .i64 a, .int .i64 b, .int .i64 c, .int .i64 d] 24)) := hb2.alloc hb2.size _
  have hB2 := hb1.trans (hC2.mono hb1.size)
  have hx2 : Has (w2.alloc (.cells #[.int .i64 a, .int .i64 b, .int .i64 c, .int .i64 d] 24)) w2.heap.size 24 #[.int .i64 a, .int .i64 b, .int .i64 c, .int .i64 d] := Has.new _ _ _
  have hs2 : w2.heap.size < (w2.alloc (.cells #[.int .i64 a, .int .i64 b, .int .i64 c, .int .i64 d] 24)).heap.size := by simp
  clear hb2 hb1
  go_wp2_with fail
  refine (HGS.out _ hC2).mono ?_
  clear HGS
  rintro e w3 ⟨rfl, hb3⟩
  have hC3 : Below w1.heap.size w1 (w3.alloc (.cells #[.int .i64 a, .int .i64 b, .int .i64 c, .int .i64 d] 24)) := (hC2.trans (hb3.mono hC2.size)).alloc (Nat.le_trans hC2.size hb3.size) _
  have hB3 := hB2.trans (hb3.mono hB2.size)
  have hB3a : Below w.heap.size w (w3.alloc (.cells #[.int .i64 a, .int .i64 b, .int .i64 c, .int .i64 d] 24)) := hB3.alloc hB3.size _
  have hx3 := (hx2.below hb3 hs2).alloc (.cells #[.int .i64 a, .int .i64 b, .int .i64 c, .int .i64 d] 24)
  have q0 : (w3.alloc (.cells #[.int .i64 a, .int .i64 b, .int .i64 c, .int .i64 d] 24)).cell? ⟨w2.heap.size, 0, none⟩ = some (.int .i64 a) := hx3.cell 0
  have q1 : (w3.alloc (.cells #[.int .i64 a, .int .i64 b, .int .i64 c, .int .i64 d] 24)).cell? ⟨w2.heap.size, 1, none⟩ = some (.int .i64 b) := hx3.cell 1
  have q2 : (w3.alloc (.cells #[.int .i64 a, .int .i64 b, .int .i64 c, .int .i64 d] 24)).cell? ⟨w2.heap.size, 2, none⟩ = some (.int .i64 c) := hx3.cell 2
  have q3 : (w3.alloc (.cells #[.int .i64 a, .int .i64 b, .int .i64 c, .int .i64 d] 24)).cell? ⟨w2.heap.size, 3, none⟩ = some (.int .i64 d) := hx3.cell 3
  have hrr : (ok != ok) = false := by simp
  have HC3 := hidden hC3
  have HB3 := hidden hB3a
  clear hb3 hx2 hx3 hB2 hB3 hC2 hs2 hC3 hB3a
  rcases ok with _ | _
  · have he := HNO.out rfl
    injection he with e1 e2 e3 e4
    subst e1
    subst e2
    subst e3
    subst e4
    go_wp2_with (go_at_call 13; refine (alive_any _).mono ?_; rintro e _ ⟨rfl, rfl⟩)
    go_ret
    exact ⟨rfl, HB3.out⟩
  · obtain ⟨h10, htk⟩ := HYS.out rfl
    have hn10 : (10 : Int) ≤ (n : Int) := by omega
    have hc10 : (10 : Int) ≤ (tc : Int) := by omega
    have HTK := hidden htk
    clear htk
    obtain ⟨l, hl⟩ : ∃ q, putHd ⟨a, b, c, d⟩ = q := ⟨_, rfl⟩
    rw [hl] at HTK HPI HPW
    have HL10 : Hid (l.length = 10) := by show _ = _; rw [← HTK.out, List.length_take, HN.out]; omega
    have HT10 : Hid (∀ W, Below w1.heap.size w1 W → Ints W .u8 w1.heap.size tb l) := fun W hB => by
      have hi := HI1.out.below hB
      rw [← HTK.out]
      refine ⟨fun x hx => hi.1 x (List.mem_of_mem_take hx), fun hlt => ?_⟩
      rw [List.length_take] at hlt
      obtain ⟨b', o', e, hb', hc'⟩ := hi.2 (by omega)
      refine ⟨b', o', e, hb', fun i hi => ?_⟩
      rw [List.length_take] at hi
      rw [hc' i (by omega), List.getD_eq_getElem?_getD, List.getD_eq_getElem?_getD, List.getElem?_take, if_pos (by omega)]
    clear hl
    go_wp2_with fail
    go_region_with (first
      | (go_at_call 9; refine (HPI.out _).mono ?_; intro e w5 hr; obtain ⟨a5, c5, g5, he, hc5, hm5, hi5, _, _, hb5⟩ := hr.parts HPW.out; rw [HL10.out] at he; obtain rfl := he; have HI5 := hidden hi5; have HB5 := hidden hb5; clear hr hi5 hb5 hc5 hm5)
      | (go_at_call 10; go_loud (refine (sameBytes_n _ _ _ _ _ _ _ 10 l HL10.out.symm HI5.out (HT10.out _ (HC3.out.drew.trans (HB5.out.mono HC3.out.size))) (by omega)).mono ?_); rintro e _ ⟨rfl, m2, rfl⟩))
    all_goals go_wp2_with fail
    all_goals go_ret
    all_goals exact ⟨rfl, below_drewN (HB3.out.drew.trans (HB5.out.mono HB3.out.size)) _⟩

end Go.Proofs.Ytplkhpkbfhpjeaa

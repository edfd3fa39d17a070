/-
  Sections in a list: eqSectionS.
-/
import Derived.Test.YtdbedkjnoppkmaaSecsT
namespace Go.Proofs.Ytdbedkjnoppkmaa
open Go.RowKit

set_option maxRecDepth 100000 in
set_option maxHeartbeats 2000000 in
theorem eqSectionS_yes (w : World) (B1 B2 : Nat) (a1 a2 : Option Addr) (c1 c2 n : Nat) (l1 l2 : List Sp) (hm : l1.map Sp.s = l2.map Sp.s) (hn : n = l1.length) (h1 : Sects w B1 a1 l1) (h2 : Sects w B2 a2 l2) (hB1 : B1 ≤ w.heap.size) (hB2 : B2 ≤ w.heap.size) (hlen : n ≤ 9223372036854775807) (hl : ∀ y ∈ l1, y.s.lens) :
    Calls Try.prog 26 #[.slice a1 n c1, .slice a2 n c2] w fun e w' => e = .returned (.bool true) ∧ Below w.heap.size w w' := by
  have HM := hidden hm
  have HN := hidden hn
  have H1 := hidden h1
  have H2 := hidden h2
  have HL := hidden hl
  have hn2' : n = l2.length := by rw [hn, ← List.length_map (f := Sp.s), hm, List.length_map]
  have HN2 := hidden hn2'
  clear hm hn h1 h2 hl hn2'
  go_enter Try.func26, Try.ntmps26
  go_wp2
  go_loopw [5] (fun i wr => ∃ k : Nat, i = .int .i64 k ∧ k ≤ n ∧ Below w.heap.size w wr) (fun i _ => n - (intOf i).toNat)
  case atStart => exact ⟨0, rfl, by omega, Below.refl _ _⟩
  case round =>
    obtain ⟨k, rfl, hk, hb⟩ := hrel
    by_cases hlt : k < n
    · have hi : (k : Int) < (n : Int) := by omega
      have hkl1 : k < l1.length := by rw [← HN.out]; exact hlt
      have hkl2 : k < l2.length := by rw [← HN2.out]; exact hlt
      obtain ⟨b1, o1, rfl, _, p0, p1, p2, p3, p4, p5⟩ := (H1.out.below (hb.mono hB1)).at_ hkl1
      obtain ⟨b2, o2, rfl, _, q0, q1, q2, q3, q4, q5⟩ := (H2.out.below (hb.mono hB2)).at_ hkl2
      obtain ⟨y, hy⟩ : ∃ y, l1[k] = y := ⟨_, rfl⟩
      obtain ⟨z, hz⟩ : ∃ z, l2[k] = z := ⟨_, rfl⟩
      rw [hy] at p0 p1 p2 p3 p4 p5
      rw [hz] at q0 q1 q2 q3 q4 q5
      have hm1 : y ∈ l1 := by rw [← hy]; exact List.getElem_mem hkl1
      have hm2 : z ∈ l2 := by rw [← hz]; exact List.getElem_mem hkl2
      have hyz : z.s = y.s := by
        have e : (l1.map Sp.s)[k]? = (l2.map Sp.s)[k]? := by rw [HM.out]
        rw [List.getElem?_map, List.getElem?_map, List.getElem?_eq_getElem hkl1, List.getElem?_eq_getElem hkl2, hy, hz] at e
        simpa using e.symm
      rw [hyz] at q0 q1 q2 q3 q4 q5
      have k3 := H2.out.bytes z hm2
      have k4 := H2.out.fixs z hm2
      rw [hyz] at k3 k4
      have hyl := HL.out y hm1
      have HC := hidden (eqSection_yes wr.drew B1 B2 y.s y.a1 y.c1 y.a2 y.c2 z.a1 z.c1 z.a2 z.c2 (((H1.out.bytes y hm1).below (hb.mono hB1)).drewN 1) (((H1.out.fixs y hm1).below (hb.mono hB1)).drewN 1) ((k3.below (hb.mono hB2)).drewN 1) ((k4.below (hb.mono hB2)).drewN 1) (Nat.le_trans hB1 hb.size) (Nat.le_trans hB2 hb.size) hyl.2.1 hyl.2.2)
      unfold Sx.agg at HC
      clear hy hz hkl1 hkl2 hm1 hm2 hyz k3 k4 hyl
      go_wp2
      go_still_tail 8, (by kernel_rfl)
      change wpList _ _ _ _ _ wr.drew
      go_wp2_with (go_at_call 54; refine HC.out.mono ?_; rintro e w2 ⟨rfl, hb2⟩)
      have hb3 : Below w.heap.size w w2 := hb.drew.trans (hb2.mono hb.size)
      go_roundw
      case rel => exact ⟨k + 1, by go_num, by omega, hb3⟩
      case measure => simp [intOf]; omega
    · have hi : ¬ (k : Int) < (n : Int) := by omega
      go_wp2
      go_ret
      exact ⟨rfl, hb⟩

end Go.Proofs.Ytdbedkjnoppkmaa

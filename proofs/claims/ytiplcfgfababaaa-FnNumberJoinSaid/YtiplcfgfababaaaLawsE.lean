/-
  The walks of FnGetNumber and FnNumberJoin.
-/
import Derived.Test.YtiplcfgfababaaaLawsC
import Derived.Test.YtiplcfgfababaaaDrawB
import Derived.RegionTactic
import Derived.Deep.RegionWith
namespace Go.Proofs.Ytiplcfgfababaaa
open Go.RowKit

theorem take_drop_get (l : List Int) (m k : Nat) (h : m + k ≤ l.length) : (l.drop m).take k = (List.range k).map fun i => l.getD (m + i) 0 := by
  apply List.ext_getElem
  · simp; omega
  · intro i h1 h2
    simp [List.getD] at h1 h2 ⊢
    rw [List.getElem?_eq_getElem (by omega)]
    rfl
theorem getVal_yes (l : List Int) (n k : Int) (hwf : ∀ x ∈ l, (Lit.int .u8 x).wf = true) (h : 0 ≤ getVal l n k) :
    1 ≤ k ∧ k ≤ 4 ∧ 0 ≤ n ∧ n + k ≤ l.length ∧ getVal l n k < pw k ∧ putList (getVal l n k) k = (l.drop n.toNat).take k.toNat := by
  by_cases h1 : k < 1 ∨ 4 < k
  · unfold getVal at h; rw [if_pos h1] at h; omega
  by_cases h2 : n < 0
  · unfold getVal at h; rw [if_neg h1, if_pos h2] at h; omega
  by_cases h3 : (l.length : Int) - k < n
  · unfold getVal at h; rw [if_neg h1, if_neg h2, if_pos h3] at h; omega
  have e : getVal l n k = leAt l n.toNat k := by unfold getVal; rw [if_neg h1, if_neg h2, if_neg h3]
  obtain ⟨m, rfl⟩ := Int.eq_ofNat_of_zero_le (Int.not_lt.mp h2)
  rw [Int.toNat_natCast] at e ⊢
  have hw := fun i (hi : i < l.length) => wf_u8.mp (hwf (l.getD i 0) (by simp [List.getD, List.getElem?_eq_getElem hi]))
  have hc : k = 1 ∨ k = 2 ∨ k = 3 ∨ k = 4 := by omega
  rw [e] at h ⊢
  clear e
  rcases hc with rfl | rfl | rfl | rfl
  · have hp : pw 1 = 256 := rfl
    have el : leAt l m 1 = l.getD m 0 := by simp [leAt]
    have ht : (l.drop m).take 1 = [l.getD m 0] := by rw [take_drop_get l m 1 (by omega)]; simp [List.range_succ]
    have w0 := hw m (by omega)
    rw [el]
    generalize l.getD m 0 = x0 at *
    refine ⟨by omega, by omega, by omega, by omega, by omega, ?_⟩
    rw [putList_yes (by omega) (by omega) (by omega) (by omega)]
    show bytesOf _ 1 = (l.drop m).take 1
    rw [ht, bytesOf_1 _ (by omega) (by omega)]
  · have hp : pw 2 = 65536 := rfl
    have el : leAt l m 2 = l.getD m 0 + 256 * l.getD (m + 1) 0 := by simp [leAt]
    have ht : (l.drop m).take 2 = [l.getD m 0, l.getD (m + 1) 0] := by rw [take_drop_get l m 2 (by omega)]; simp [List.range_succ]
    have w0 := hw m (by omega)
    have w1 := hw (m + 1) (by omega)
    rw [el]
    generalize l.getD m 0 = x0 at *
    generalize l.getD (m + 1) 0 = x1 at *
    refine ⟨by omega, by omega, by omega, by omega, by omega, ?_⟩
    rw [putList_yes (by omega) (by omega) (by omega) (by omega)]
    show bytesOf _ 2 = (l.drop m).take 2
    rw [ht, bytesOf_2 _ (by omega) (by omega)]
    simp <;> omega
  · have hp : pw 3 = 16777216 := rfl
    have el : leAt l m 3 = l.getD m 0 + 256 * l.getD (m + 1) 0 + 65536 * l.getD (m + 2) 0 := by simp [leAt]
    have ht : (l.drop m).take 3 = [l.getD m 0, l.getD (m + 1) 0, l.getD (m + 2) 0] := by rw [take_drop_get l m 3 (by omega)]; simp [List.range_succ]
    have w0 := hw m (by omega)
    have w1 := hw (m + 1) (by omega)
    have w2 := hw (m + 2) (by omega)
    rw [el]
    generalize l.getD m 0 = x0 at *
    generalize l.getD (m + 1) 0 = x1 at *
    generalize l.getD (m + 2) 0 = x2 at *
    refine ⟨by omega, by omega, by omega, by omega, by omega, ?_⟩
    rw [putList_yes (by omega) (by omega) (by omega) (by omega)]
    show bytesOf _ 3 = (l.drop m).take 3
    rw [ht, bytesOf_3 _ (by omega) (by omega)]
    simp <;> omega
  · have hp : pw 4 = 4294967296 := rfl
    have el : leAt l m 4 = l.getD m 0 + 256 * l.getD (m + 1) 0 + 65536 * l.getD (m + 2) 0 + 16777216 * l.getD (m + 3) 0 := by simp [leAt]
    have ht : (l.drop m).take 4 = [l.getD m 0, l.getD (m + 1) 0, l.getD (m + 2) 0, l.getD (m + 3) 0] := by rw [take_drop_get l m 4 (by omega)]; simp [List.range_succ]
    have w0 := hw m (by omega)
    have w1 := hw (m + 1) (by omega)
    have w2 := hw (m + 2) (by omega)
    have w3 := hw (m + 3) (by omega)
    rw [el]
    generalize l.getD m 0 = x0 at *
    generalize l.getD (m + 1) 0 = x1 at *
    generalize l.getD (m + 2) 0 = x2 at *
    generalize l.getD (m + 3) 0 = x3 at *
    refine ⟨by omega, by omega, by omega, by omega, by omega, ?_⟩
    rw [putList_yes (by omega) (by omega) (by omega) (by omega)]
    show bytesOf _ 4 = (l.drop m).take 4
    rw [ht, bytesOf_4 _ (by omega) (by omega)]
    simp <;> omega

theorem getVal_no (l : List Int) (n k : Int) (hwf : ∀ x ∈ l, (Lit.int .u8 x).wf = true) (h : getVal l n k < 0) : getVal l n k = -1 := by
  by_cases h1 : k < 1 ∨ 4 < k
  · unfold getVal; rw [if_pos h1]
  by_cases h2 : n < 0
  · unfold getVal; rw [if_neg h1, if_pos h2]
  by_cases h3 : (l.length : Int) - k < n
  · unfold getVal; rw [if_neg h1, if_neg h2, if_pos h3]
  have e : getVal l n k = leAt l n.toNat k := by unfold getVal; rw [if_neg h1, if_neg h2, if_neg h3]
  obtain ⟨m, rfl⟩ := Int.eq_ofNat_of_zero_le (Int.not_lt.mp h2)
  rw [Int.toNat_natCast] at e
  have hw := fun i (hi : i < l.length) => wf_u8.mp (hwf (l.getD i 0) (by simp [List.getD, List.getElem?_eq_getElem hi]))
  rw [e] at h
  unfold leAt at h
  have w0 := hw m (by omega)
  have hc : k = 1 ∨ k = 2 ∨ k = 3 ∨ k = 4 := by omega
  rcases hc with rfl | rfl | rfl | rfl
  · simp at h; have := List.getD_eq_getElem?_getD (l := l) (i := m) (a := 0); omega
  · have w1 := hw (m + 1) (by omega)
    rw [if_neg (by decide), if_pos rfl] at h; omega
  · have w1 := hw (m + 1) (by omega)
    have w2 := hw (m + 2) (by omega)
    rw [if_neg (by decide), if_neg (by decide), if_pos rfl] at h; omega
  · have w1 := hw (m + 1) (by omega)
    have w2 := hw (m + 2) (by omega)
    have w3 := hw (m + 3) (by omega)
    rw [if_neg (by decide), if_neg (by decide), if_neg (by decide)] at h; omega
theorem getVal_join (l : List Int) (n : Int) (hwf : ∀ x ∈ l, (Lit.int .u8 x).wf = true) (h : 0 ≤ getVal l n 4) :
    getVal l n 4 = getVal l n 2 + 65536 * getVal l (n + 2) 2 ∧ 0 ≤ getVal l n 2 ∧ getVal l n 2 < 65536 ∧ 0 ≤ getVal l (n + 2) 2 ∧ getVal l (n + 2) 2 < 65536 := by
  obtain ⟨_, _, h0, hl, _, _⟩ := getVal_yes l n 4 hwf h
  obtain ⟨m, rfl⟩ := Int.eq_ofNat_of_zero_le h0
  have hw := fun i (hi : i < l.length) => wf_u8.mp (hwf (l.getD i 0) (by simp [List.getD, List.getElem?_eq_getElem hi]))
  have w0 := hw m (by omega)
  have w1 := hw (m + 1) (by omega)
  have w2 := hw (m + 2) (by omega)
  have w3 := hw (m + 3) (by omega)
  have e4 : getVal l m 4 = l.getD m 0 + 256 * l.getD (m + 1) 0 + 65536 * l.getD (m + 2) 0 + 16777216 * l.getD (m + 3) 0 := by
    unfold getVal; rw [if_neg (by omega), if_neg (by omega), if_neg (by omega), Int.toNat_natCast]; simp [leAt]
  have e2 : getVal l m 2 = l.getD m 0 + 256 * l.getD (m + 1) 0 := by
    unfold getVal; rw [if_neg (by omega), if_neg (by omega), if_neg (by omega), Int.toNat_natCast]; simp [leAt]
  have e2' : getVal l ((m : Int) + 2) 2 = l.getD (m + 2) 0 + 256 * l.getD (m + 3) 0 := by
    have ec : (m : Int) + 2 = ((m + 2 : Nat) : Int) := by omega
    rw [ec]
    unfold getVal; rw [if_neg (by omega), if_neg (by omega), if_neg (by omega), Int.toNat_natCast]; simp [leAt]
  rw [e4, e2, e2']
  omega

theorem sameBytes_len (w : World) (B1 B2 : Nat) (a1 a2 : Option Addr) (c1 c2 n : Nat) (l : List Int) (hn : n = l.length) (h1 : Ints w .u8 B1 a1 l) (h2 : Ints w .u8 B2 a2 l) (hlen : n ≤ 9223372036854775807) :
    Calls Try.prog 14 #[.slice a1 n c1, .slice a2 n c2] w fun e w' => e = .returned (.bool true) ∧ ∃ n, w' = w.drewN n := by
  subst hn; exact sameBytes_yes w B1 B2 a1 a2 c1 c2 l h1 h2 hlen

set_option maxHeartbeats 2000000 in
theorem law_NumberJoin (w : World) (a0 : Option Addr) (len cap : Nat) (h : Came w a0 len cap) :
    Calls Try.prog 7 #[.slice a0 len cap] w fun e w' => e = .returned (.bool true) ∧ Below w.heap.size w w' := by
  obtain ⟨l0, h, rfl, hcap, hmax⟩ := h
  by_cases hbig : 1048576 < l0.length
  · have hd : (1048576 : Int) < (l0.length : Int) := by omega
    go_enter Try.func7, Try.ntmps7
    go_wp2
    go_ret
    exact ⟨rfl, Below.refl _ _⟩
  have hd : ¬ (1048576 : Int) < (l0.length : Int) := by omega
  go_enter Try.func7, Try.ntmps7
  go_wp2_with fail
  refine (drawGetNumber_any w a0 cap l0 h hcap hmax).mono ?_
  rintro e w1 ⟨a, c, l, n, k, rfl, hlc, hi, hl9, n0, n1, k0, k1, hb⟩
  clear h
  go_wp2_with fail
  refine (getNumber_any w1 w1.heap.size a c l hi (by omega) n k).mono ?_
  rintro e _ ⟨rfl, rfl⟩
  go_wp2_with fail
  refine (getNumber'_any w1 w1.heap.size a c l hi (by omega) n k).mono ?_
  rintro e _ ⟨rfl, rfl⟩
  go_wp2_with fail
  refine (getNumber_any w1 w1.heap.size a c l hi (by omega) n 4).mono ?_
  rintro e _ ⟨rfl, rfl⟩
  by_cases hv : getVal l n 4 < 0
  · go_wp2_with fail
    refine (alive_any _).mono ?_
    rintro e _ ⟨rfl, rfl⟩
    go_wp2_with fail
    go_ret
    exact ⟨rfl, hb⟩
  · obtain ⟨hj, q1, q2, q3, q4⟩ := getVal_join l n hi.1 (by omega)
    have HJ := hidden hj
    clear hj
    have hv0 : 0 ≤ getVal l n 4 := by omega
    clear hv
    go_wp2_with fail
    refine (getNumber_any w1 w1.heap.size a c l hi (by omega) n 2).mono ?_
    rintro e _ ⟨rfl, rfl⟩
    go_wp2_with fail
    refine (getNumber_any w1 w1.heap.size a c l hi (by omega) (n + 2) 2).mono ?_
    rintro e _ ⟨rfl, rfl⟩
    go_wp2_with fail
    go_ret
    exact ⟨ret_bool (by rw [HJ.out]; simp), hb⟩

set_option maxHeartbeats 2000000 in
theorem law_GetNumber (w : World) (a0 : Option Addr) (len cap : Nat) (h : Came w a0 len cap) :
    Calls Try.prog 4 #[.slice a0 len cap] w fun e w' => e = .returned (.bool true) ∧ Below w.heap.size w w' := by
  obtain ⟨l0, h, rfl, hcap, hmax⟩ := h
  by_cases hbig : 1048576 < l0.length
  · have hd : (1048576 : Int) < (l0.length : Int) := by omega
    go_enter Try.func4, Try.ntmps4
    go_wp2
    go_ret
    exact ⟨rfl, Below.refl _ _⟩
  have hd : ¬ (1048576 : Int) < (l0.length : Int) := by omega
  go_enter Try.func4, Try.ntmps4
  go_wp2_with fail
  refine (drawGetNumber_any w a0 cap l0 h hcap hmax).mono ?_
  rintro e w1 ⟨a, c, l, n, k, rfl, hlc, hi, hl9, n0, n1, k0, k1, hb⟩
  clear h
  go_wp2_with fail
  refine (getNumber_any w1 w1.heap.size a c l hi (by omega) n k).mono ?_
  rintro e _ ⟨rfl, rfl⟩
  go_wp2_with fail
  refine (getNumber'_any w1 w1.heap.size a c l hi (by omega) n k).mono ?_
  rintro e _ ⟨rfl, rfl⟩
  by_cases hv : getVal l n k < 0
  · have he : (getVal l n k == -1) = true := by rw [getVal_no l n k hi.1 hv]; rfl
    go_wp2_with fail
    refine (alive_any _).mono ?_
    rintro e _ ⟨rfl, rfl⟩
    go_wp2_with fail
    go_ret
    exact ⟨rfl, hb⟩
  · obtain ⟨hk1, hk4, hn0, hnk, hlt, hput⟩ := getVal_yes l n k hi.1 (by omega)
    obtain ⟨v, hvv⟩ : ∃ v, getVal l n k = v := ⟨_, rfl⟩
    rw [hvv] at hv hlt hput ⊢
    obtain ⟨m, rfl⟩ := Int.eq_ofNat_of_zero_le hn0
    obtain ⟨q, rfl⟩ := Int.eq_ofNat_of_zero_le k0
    rw [Int.toNat_natCast, Int.toNat_natCast] at hput
    obtain ⟨b, off, rfl, hbl, hcs⟩ := hi.2 (by omega)
    have hsub : Ints w1 .u8 w1.heap.size (some ⟨b, off + m, none⟩) ((l.drop m).take q) := by
      refine ⟨fun x hx => hi.1 x (List.mem_of_mem_drop (List.mem_of_mem_take hx)), fun hq => ⟨b, off + m, rfl, hbl, fun i hi' => ?_⟩⟩
      have h2 : i < q := by rw [List.length_take] at hi'; omega
      have h3 : m + i < l.length := by omega
      rw [Nat.add_assoc, hcs (m + i) h3]
      simp [List.getD, List.getElem?_take, h2, List.getElem?_drop]
    have hpl : (putList v (q : Int)).length = q := by rw [hput, List.length_take, List.length_drop]; omega
    rw [← hput] at hsub
    have HS := hidden hsub
    have HP := hidden hpl
    have hv0 : 0 ≤ v := by omega
    have hcm : ¬ c = m := by omega
    have sw : IntKind.i64.wrap ((m : Int) + (q : Int)) = (m : Int) + (q : Int) := IntWalk.i64_in _ (by omega)
    have hsl : ∀ W : World, (Instr.slice 22 (.slice (some ⟨b, off, none⟩) l.length c) (some (.int .i64 (m : Int))) (some (.int .i64 ((m : Int) + (q : Int)))) none).run Try.prog W = .ok (.slice (some ⟨b, off + m, none⟩) q (c - m)) W := fun W => by
      have e1 : ((m : Int) + (q : Int)).toNat = m + q := by omega
      have ht : Try.prog.underlying 22 = some (.slice (Try.prog.elem 22)) := by kernel_rfl
      have hz : (sizeOf (Try.prog.elem 22)).run Try.prog W = .ok 1 W := by kernel_rfl
      rw [run_slice_lh W 22 (some ⟨b, off, none⟩) l.length c ht .i64 .i64 (m : Int) ((m : Int) + (q : Int)) (by omega) (by omega) (by omega), hz]
      simp [Result.andThen, sliced, e1, hcm, Addr.add]
    clear hvv hput hsub hpl hv hi hcs hlt hn0 k0
    go_wp2_with fail
    go_region_with (first | (go_at_call 13; refine (putNumber_any v (q : Int) _).mono ?_; rintro e w2 ⟨a2, he2, ho2, hb2⟩; rw [HP.out] at he2; obtain rfl := he2; have hb3 : Below w1.heap.size w1 w2 := ⟨hb2.os, hb2.tape, hb2.output, hb2.size, hb2.block⟩) | (go_at_call 14; go_loud (refine (sameBytes_len _ _ _ _ _ _ _ q (putList v (q : Int)) HP.out.symm (Own.ints ho2) (HS.out.below hb3) (by omega)).mono ?_); rintro e _ ⟨rfl, m2, rfl⟩))
    all_goals go_wp2_with fail
    all_goals go_ret
    all_goals exact ⟨rfl, below_drewN (hb.trans (hb3.mono hb.size)) _⟩

end Go.Proofs.Ytiplcfgfababaaa

import Derived.Test.YtpfombelhajmlaaGreatDoorDumpH
import Derived.Test.YtpfombelhajmlaaGreatDoorMem
import Derived.RegionTactic
import Derived.BigRegion
import Derived.Deep.CutBlock
namespace Go.Proofs.YtpfombelhajmlaaGreatDoor
open Go.RowKit
def wordsT (t : List Int) : List ByteArray := (wordsL t).map strOfNums
theorem wordsT_length (t : List Int) : 0 < (wordsT t).length := by
  unfold wordsT
  rw [List.length_map]
  exact List.length_pos_iff.2 (wordsL_ne t)
theorem wordsT_space {t : List Int} {k : Nat} (h : t[k]? = some 32) : wordsT (t.take (k + 1)) = wordsT (t.take k) ++ [⟨#[]⟩] := by
  unfold wordsT
  rw [List.take_add_one, h, show (some (32 : Int)).toList = [32] from rfl, wordsL_space, List.map_append]; rfl
theorem wordsT_byte {t : List Int} {k : Nat} {c : Int} (h : t[k]? = some c) (hc : c ≠ 32) {S : List ByteArray} {u : ByteArray} (hS : wordsT (t.take k) = S ++ [u]) : wordsT (t.take (k + 1)) = S ++ [u ++ strOfNums [c]] := by
  unfold wordsT at hS ⊢
  rw [List.take_add_one, h, show (some c).toList = [c] from rfl, wordsL_byte hc]
  rcases List.eq_nil_or_concat (wordsL (t.take k)) with e | ⟨q, x, e⟩
  · exact absurd e (wordsL_ne _)
  · rw [e, List.concat_eq_append] at hS ⊢
    rw [List.map_append, List.map_cons, List.map_nil] at hS
    obtain ⟨h1, h2⟩ := List.append_inj' hS rfl
    injection h2 with h2
    simp only [List.dropLast_concat, List.getLast?_append, List.getLast?_singleton, Option.some_or, Option.getD_some, List.map_append, List.map_cons, List.map_nil]
    rw [strOfNums_append, h1, h2]
theorem wordsT_few (t : List Int) : (wordsT t).length ≤ t.length + 1 := by
  unfold wordsT
  rw [List.length_map]
  induction t with
  | nil => simp [wordsL]
  | cons c r ih =>
    rw [wordsL]
    split
    · simp; exact ih
    · split
      · rename_i w q hq; rw [hq] at ih; simp at ih ⊢; omega
      · simp
theorem run_substr (W : World) (s : ByteArray) (k : Nat) (h : k < s.size) (_ : s.size ≤ 1200000) : (Instr.sliceAt 9 (.string s) (some (.int .i64 (k : Int))) (some (.int .i64 ((k : Int) + 1))) none).run Tryz.prog W = .ok (.string (strOfNums [((s[k].toNat : Nat) : Int)])) W := by
  have e : s.extract k (k + 1) = strOfNums [((s[k].toNat : Nat) : Int)] := by
    refine ByteArray.ext (Array.ext' ?_)
    have hl : k < s.data.toList.length := by simpa using h
    rw [ByteArray.data_extract, Array.toList_extract, strOfNums_data, List.extract_eq_take_drop, show k + 1 - k = 1 by omega, List.drop_eq_getElem_cons hl]
    simp
    rfl
  rw [run_sliceAt_string (h := Tryz.underlying9), run_slice_string (h := Tryz.underlying9) (h0 := by omega) (h1 := by omega) (h2 := by omega), ← e]
  rfl
set_option maxRecDepth 100000 in
set_option maxHeartbeats 4000000 in
theorem l8Words_any (w : World) (s : ByteArray) (hs : s.size ≤ 1200000) :
    Calls Tryz.prog 40 #[.string s] w fun e w' => ∃ v, e = .returned v ∧ w'.ownsRow w.heap.size 9 1 v (wordsT (numsOf s)).length ((wordsT (numsOf s)).map Value.string) ∧ Below w.heap.size w w' := by
  obtain ⟨t, ht⟩ : ∃ t, numsOf s = t := ⟨_, rfl⟩
  have HT := hidden ht
  have hlen : t.length = s.size := by rw [← ht]; exact numsOf_length s
  have HLEN := hidden hlen
  rw [ht]
  clear ht hlen
  obtain ⟨i0, hi0, hz0, hz1, hz2⟩ := info_parts Tryz.info_str
  go_enter Tryz.func40, Tryz.ntmps40
  go_wp2_with fail
  have hrow0 : Hid ((w.alloc (.cells #[.string ⟨#[]⟩] 9)).ownsRow w.heap.size 9 1 (.slice (some ⟨w.heap.size, 0, none⟩) 1 1) 1 ((wordsT (t.take 0)).map Value.string)) := by
    have := World.ownsRow_lit (base := w.heap.size) (e := 9) (size := 1) w #[.string ⟨#[]⟩] 1 (Nat.le_refl _) (by unfold maxLen; omega) rfl
    exact this
  have hb0 : Hid (Below w.heap.size w (w.alloc (.cells #[.string ⟨#[]⟩] 9))) := (Below.refl _ _).alloc (Nat.le_refl _) _
  go_loopw [3, 4] (fun v i wr => ∃ (k : Nat) (S : List ByteArray), i = .int .i64 k ∧ k ≤ s.size ∧ Hid (S = wordsT (t.take k)) ∧ Hid (wr.ownsRow w.heap.size 9 1 v S.length (S.map Value.string)) ∧ Hid (Below w.heap.size w wr) ∧ Hid (∀ u ∈ S, u.size ≤ k)) (fun _ i _ => s.size - (intOf i).toNat)
  case atStart => exact ⟨0, [⟨#[]⟩], rfl, Nat.zero_le _, (by show _ = _; rfl), hrow0.out, hb0.out, (by intro u hu; simp at hu; subst hu; decide)⟩
  case round =>
    obtain ⟨k, S, rfl, hk, hS, hrow, hb, hsm⟩ := hrel
    clear hrow0 hb0
    by_cases hlt : k < s.size
    · have hi : (k : Int) < (s.size : Int) := by omega
      obtain ⟨c, hc⟩ : ∃ c : Int, ((s[k].toNat : Nat) : Int) = c := ⟨_, rfl⟩
      have hct : Hid (t[k]? = some c) := by show _ = _; rw [← HT.out, ← hc]; exact numsOf_at hlt
      have hSk : S.length ≤ k + 1 := by
        rw [hS.out]
        have := wordsT_few (t.take k)
        rw [List.length_take] at this
        omega
      obtain ⟨N, hN⟩ : ∃ N, S.length = N := ⟨_, rfl⟩
      have HN := hidden hN
      have hN0 : 0 < N := by rw [← hN, hS.out]; exact wordsT_length _
      rw [hN] at hrow hSk
      by_cases h32 : c = 32
      · have hbe : (c == 32) = true := by simp [h32]
        have HSN : Hid (S ++ [⟨#[]⟩] = wordsT (t.take (k + 1))) := by show _ = _; rw [hS.out, wordsT_space (by rw [hct.out, h32])]
        have HO := hidden (hrow.out.alloc (.cells #[.string ⟨#[]⟩] 9))
        have hlow : Hid (∀ q, _ = some q → w.heap.size ≤ q) := fun q hq => (hrow.out.lt q hq).1
        have hbw1 := hidden (hb.out.alloc hb.out.size (.cells #[.string ⟨#[]⟩] 9))
        have hws := hb.out.size
        clear hN h32 hrow hb
        go_wp2_with (at_builtin; refine wpList_append_own _ rfl _ _ 28 rfl w.heap.size 9 i0 (.string ⟨#[]⟩) 1 16 Tryz.underlying28 hi0 hz0 hz1 hz2 rfl (by decide) _ _ _ rfl HO.out ⟨wr.heap.size, 0, none⟩ 1 1 [.string ⟨#[]⟩] rfl rfl (fun t u ht => by
            match t, ht with
            | 0, ht => simp at ht; subst ht; simp [Addr.add]) (by intro u hu; simp at hu; subst hu; rfl) (by unfold maxLen; omega) (by omega) (by simp; omega) ?_)
        intro v' w2 hown hg _
        have hrow2 : Hid (w2.ownsRow w.heap.size 9 1 v' (S ++ [(⟨#[]⟩ : ByteArray)]).length ((S ++ [(⟨#[]⟩ : ByteArray)]).map Value.string)) := by
          show w2.ownsRow _ _ _ _ _ _
          rw [List.length_append, HN.out, List.map_append]; exact hown
        have hbw2 := hidden (hbw1.out.grown hg (by simp; omega) (fun q hq => hlow.out q hq))
        have hsm2 : Hid (∀ u ∈ S ++ [(⟨#[]⟩ : ByteArray)], u.size ≤ k + 1) := by
          show ∀ u ∈ _, _
          intro u hu
          rcases List.mem_append.1 hu with hu | hu
          · have := hsm.out u hu; omega
          · rw [List.mem_singleton.1 hu]; exact Nat.zero_le _
        clear hown hg HO hlow hbw1 hsm
        go_wp2_with fail
        go_roundw
        case rel => exact ⟨k + 1, _, by go_num, by omega, HSN, hrow2, hbw2, hsm2⟩
        case measure => simp [intOf]; omega
      · have hbe : (c == 32) = false := by simp [h32]
        obtain ⟨Q, u, hQ⟩ : ∃ Q u, S = Q ++ [u] := by
          rcases List.eq_nil_or_concat S with e | ⟨q, x, e⟩
          · rw [e] at hN; simp at hN; omega
          · exact ⟨q, x, by rw [e, List.concat_eq_append]⟩
        have hrv := hrow.out
        have hlw : (u ++ strOfNums [c]).size ≤ k + 1 := by
          have := hsm.out u (by rw [hQ]; simp)
          rw [ByteArray.size_append, strOfNums_size]
          simp; omega
        have HSN : Hid (Q ++ [u ++ strOfNums [c]] = wordsT (t.take (k + 1))) := by show _ = _; exact (wordsT_byte hct.out h32 (by rw [← hS.out, hQ])).symm
        have hQN : Q.length + 1 = N := by rw [← hN, hQ]; simp
        rcases hrv.2 with ⟨_, h0⟩ | ⟨g, cap, cur, rfl, hgb, hblk, -⟩
        · omega
        obtain ⟨M, rfl⟩ : ∃ M, N = M + 1 := ⟨N - 1, by omega⟩
        have hQM : Q.length = M := by omega
        have hcel : wr.drew.cell? ⟨g, M, none⟩ = some (.string u) := by
          show wr.cell? _ = _
          rw [World.ownsRow.cellAt hrv M (by omega), hQ, List.map_append, List.getElem?_append_right (by rw [List.length_map]; omega), List.length_map, hQM, Nat.sub_self]; rfl
        have hfro : wr.drew.frozen? ⟨g, M, none⟩ = false := World.ownsRow.frozenAt hrv M
        have hw1 : IntKind.i64.wrap (((M + 1 : Nat) : Int) - 1) = (M : Int) := by rw [show ((M + 1 : Nat) : Int) - 1 = (M : Int) by omega]; exact IntWalk.i64_in _ (by omega)
        have hw2 : IntKind.i64.wrap ((M : Int) + 1 - 1) = (M : Int) := by rw [show (M : Int) + 1 - 1 = (M : Int) by omega]; exact IntWalk.i64_in _ (by omega)
        have hM0 : (M : Int) < ((M + 1 : Nat) : Int) := by omega
        obtain ⟨T1, hT1⟩ : ∃ T, strOfNums [c] = T := ⟨_, rfl⟩
        have hsub : ∀ W : World, (Instr.sliceAt 9 (.string s) (some (.int .i64 (k : Int))) (some (.int .i64 ((k : Int) + 1))) none).run Tryz.prog W = .ok (.string T1) W := fun W => by
          rw [← hT1, ← hc]
          exact run_substr W s k hlt (by omega)
        have hss : ¬ 9223372036854775807 < u.size + T1.size := by
          have := hsm.out u (by rw [hQ]; simp)
          rw [← hT1, strOfNums_size]
          simp; omega
        rw [hT1] at hlw HSN
        have HST := hidden (World.ownsRow.stored hrv M (.string (u ++ T1)))
        have hbs := hb.out.size
        have HBF := hidden hb.out
        have HQQ := hidden hQ
        clear hN hrow hbe hT1 hrv hb
        go_wp2_with fail
        go_region
        have HROW : Hid ((wr.setCell ⟨g, M, none⟩ (.string (u ++ T1))).drew.ownsRow w.heap.size 9 1 (.slice (some ⟨g, 0, none⟩) (M + 1) cap) (Q ++ [u ++ T1]).length ((Q ++ [u ++ T1]).map Value.string)) := by
          have h1 := HST.out.1
          rw [HQQ.out, List.map_append, List.map_cons, List.map_nil, List.set_append_right _ _ (by rw [List.length_map]; omega), List.length_map, hQM, Nat.sub_self, List.set_cons_zero] at h1
          rw [List.length_append, List.map_append, List.map_cons, List.map_nil, List.length_singleton, hQM]
          exact h1
        have HB' : Hid (Below w.heap.size w (wr.setCell ⟨g, M, none⟩ (.string (u ++ T1))).drew) := (HBF.out.setCell hgb _).drew
        have HSM : Hid (∀ z ∈ Q ++ [u ++ T1], z.size ≤ k + 1) := by
          show ∀ z ∈ _, _
          intro z hz
          rcases List.mem_append.1 hz with hz | hz
          · have := hsm.out z (by rw [HQQ.out]; exact List.mem_append_left _ hz); omega
          · rw [List.mem_singleton.1 hz]; exact hlw
        clear HST HBF hsm hcel hfro hsub
        go_wp2_with fail
        go_roundw
        case rel => exact ⟨k + 1, _, by go_num, by omega, HSN, HROW, HB', HSM⟩
        case measure => simp [intOf]; omega
    · have hi : ¬ (k : Int) < (s.size : Int) := by omega
      have HF : Hid (S = wordsT t) := by
        show _ = _
        have e : t.take k = t := List.take_of_length_le (by rw [HLEN.out]; omega)
        rw [hS.out, e]
      rw [HF.out] at hrow
      clear hS hsm
      go_wp2_with fail
      go_ret
      exact ⟨_, rfl, hrow.out, hb.out⟩
def fullD (t : List Int) : Option Int := if t.head? = some 45 then rdDig t.tail 1 0 else rdDig t 0 0
theorem rdNum_none {t : List Int} (h : fullD t = none) : rdNum t = 99999 := by
  unfold fullD at h
  unfold rdNum
  rw [h]
theorem rdNum_some {t : List Int} {n m : Int} (h : fullD t = some n) (hm : (if t.head? = some 45 then -n else n) = m) : rdNum t = if numL m = t then m else 99999 := by
  unfold fullD at h
  unfold rdNum
  rw [h]
  simp only [hm]
def bnd : Nat → Int
  | 0 => 0 | 1 => 9 | 2 => 99 | 3 => 999 | 4 => 9999 | 5 => 99999 | _ => 999999
theorem bnd_next {k : Nat} (h : k ≤ 5) : 10 * bnd k + 9 ≤ bnd (k + 1) ∧ bnd k ≤ 99999 := by
  have hc : k = 0 ∨ k = 1 ∨ k = 2 ∨ k = 3 ∨ k = 4 ∨ k = 5 := by omega
  rcases hc with rfl | rfl | rfl | rfl | rfl | rfl <;> decide
theorem bnd_le (k : Nat) : bnd k ≤ 999999 := by unfold bnd; split <;> decide
theorem numT_eq {m : Int} {s : ByteArray} : strOfNums (numL m) = s ↔ numL m = numsOf s := by
  constructor
  · intro h
    rw [← h]
    unfold numsOf
    rw [strOfNums_data, List.map_map]
    conv => lhs; rw [← List.map_id (numL m)]
    refine List.map_congr_left fun x hx => ?_
    have := numL_chars m x hx
    show x = ((UInt8.ofNat x.toNat).toNat : Int)
    rw [UInt8.toNat_ofNat']
    omega
  · intro h; rw [h, strOfNums_numsOf]
def DigAt (t : List Int) (k : Nat) (n : Int) : Prop := (k = 0 ∧ n = 0) ∨ (0 < k ∧ fullD t = rdDig (t.drop k) k n)
theorem DigAt.sign {t : List Int} (h : t[0]? = some 45) : DigAt t 1 0 := .inr ⟨by omega, by
  cases t with
  | nil => cases h
  | cons c r =>
    simp at h
    subst h
    unfold fullD
    simp⟩
theorem DigAt.full {t : List Int} {k : Nat} {n c : Int} (h : DigAt t k n) (hc : t[k]? = some c) (hs : ¬ (c = 45 ∧ k = 0)) : fullD t = rdDig (c :: t.drop (k + 1)) k n := by
  have hd : t.drop k = c :: t.drop (k + 1) := by
    obtain ⟨hl, he⟩ := List.getElem?_eq_some_iff.1 hc
    rw [List.drop_eq_getElem_cons hl, he]
  rcases h with ⟨rfl, rfl⟩ | ⟨_, h⟩
  · have hd0 : t = c :: t.drop 1 := by simpa using hd
    rw [← hd, List.drop_zero]
    unfold fullD
    rw [if_neg]
    rw [hd0]
    simp
    intro e; exact hs ⟨e, rfl⟩
  · rw [h, hd]
theorem DigAt.next {t : List Int} {k : Nat} {n c : Int} (h : DigAt t k n) (hc : t[k]? = some c) (hs : ¬ (c = 45 ∧ k = 0)) (h0 : 48 ≤ c) (h1 : c ≤ 57) (hk : k ≤ 5) : DigAt t (k + 1) (10 * n + (c - 48)) := .inr ⟨by omega, by
  rw [h.full hc hs, rdDig, if_pos]
  unfold digC
  simp
  omega⟩
theorem DigAt.bad {t : List Int} {k : Nat} {n c : Int} (h : DigAt t k n) (hc : t[k]? = some c) (hs : ¬ (c = 45 ∧ k = 0)) (hb : c < 48 ∨ 57 < c ∨ 5 < k) : rdNum t = 99999 := rdNum_none (by
  rw [h.full hc hs, rdDig, if_neg]
  unfold digC
  simp
  omega)
theorem DigAt.fin {t : List Int} {k : Nat} {n : Int} (h : DigAt t k n) (hk : t.length = k) : fullD t = some n := by
  rcases h with ⟨rfl, rfl⟩ | ⟨_, h⟩
  · rw [List.eq_nil_of_length_eq_zero hk]; rfl
  · rw [h, List.drop_eq_nil_of_le (by omega), rdDig]
set_option maxRecDepth 100000 in
set_option maxHeartbeats 4000000 in
theorem l8Read_any (w : World) (s : ByteArray) (hs : s.size ≤ 1200000) :
    Calls Tryz.prog 42 #[.string s] w fun e w' => e = .returned (.int .i64 (rdNum (numsOf s))) ∧ Below w.heap.size w w' := by
  obtain ⟨t, ht⟩ : ∃ t, numsOf s = t := ⟨_, rfl⟩
  have HT := hidden ht
  have hlen : t.length = s.size := by rw [← ht]; exact numsOf_length s
  have HLEN := hidden hlen
  rw [ht]
  clear ht hlen
  go_enter Tryz.func42, Tryz.ntmps42
  go_wp2_with fail
  go_loopw [3, 4] (fun m i wr => ∃ (k : Nat) (n : Int), m = .int .i64 n ∧ i = .int .i64 k ∧ k ≤ s.size ∧ k ≤ 6 ∧ 0 ≤ n ∧ n ≤ bnd k ∧ Hid (DigAt t k n) ∧ wr = w) (fun _ i _ => s.size - (intOf i).toNat)
  case atStart => exact ⟨0, 0, rfl, rfl, Nat.zero_le _, by omega, by omega, by decide, .inl ⟨rfl, rfl⟩, rfl⟩
  case round =>
    obtain ⟨k, n, rfl, rfl, hk, hk6, hn0, hn1, hd, rfl⟩ := hrel
    have hnb := bnd_le k
    by_cases hlt : k < s.size
    · have hi : (k : Int) < (s.size : Int) := by omega
      obtain ⟨c, hc⟩ : ∃ c : Int, ((s[k].toNat : Nat) : Int) = c := ⟨_, rfl⟩
      have hct : Hid (t[k]? = some c) := by show _ = _; rw [← HT.out, ← hc]; exact numsOf_at hlt
      have hc0 : 0 ≤ c ∧ c < 256 := by rw [← hc]; have := s[k].toNat_lt; omega
      by_cases hsg : c = 45 ∧ k = 0
      · obtain ⟨h45, hk0⟩ := hsg
        have hbe : (c == 45) = true := by simp [h45]
        have HD : Hid (DigAt t (k + 1) 0) := by show DigAt _ _ _; rw [hk0]; exact .sign (by rw [← hk0, hct.out, h45])
        have hn00 : n = 0 := by rcases hd.out with ⟨_, h⟩ | ⟨h, _⟩ <;> omega
        have hki : ((k : Int) == 0) = true := by simp [hk0]
        subst hn00
        subst hk0
        clear hd h45
        go_wp2_with fail
        exact ⟨⟨1, 0, rfl, rfl, by omega, by omega, by omega, by decide, HD, trivial⟩, by simp [intOf]; omega⟩
      · have hpick : c = 45 → ((k : Int) == 0) = false := fun e => by
          have : ¬ k = 0 := fun e' => hsg ⟨e, e'⟩
          simp; omega
        by_cases hok : 48 ≤ c ∧ c ≤ 57 ∧ k ≤ 5
        · obtain ⟨hc1, hc2, hk5⟩ := hok
          have HD := hidden (hd.out.next hct.out hsg hc1 hc2 hk5)
          obtain ⟨hb1, hb2⟩ := bnd_next hk5
          have hbe : (c == 45) = false := by simp; omega
          have l1 : ¬ c < 48 := by omega
          have l2 : ¬ 57 < c := by omega
          have l3 : ¬ 5 < (k : Int) := by omega
          have w1 : IntKind.i64.wrap (10 * n) = 10 * n := IntWalk.i64_in _ (by omega)
          have w2 : IntKind.u8.wrap (c - 48) = c - 48 := IntWalk.u8_in _ (by omega)
          have w3 : IntKind.i64.wrap (c - 48) = c - 48 := IntWalk.i64_in _ (by omega)
          have w4 : IntKind.i64.wrap (10 * n + (c - 48)) = 10 * n + (c - 48) := IntWalk.i64_in _ (by omega)
          have h6 : 0 ≤ 10 * n + (c - 48) := by omega
          have h7 : 10 * n + (c - 48) ≤ bnd (k + 1) := by omega
          have hi5 := hi
          clear hd hpick hsg hb1 hb2
          go_wp2_with fail
          go_roundw
          case rel => exact ⟨k + 1, _, rfl, by go_num, by omega, by omega, h6, h7, HD, by simp⟩
          case measure => simp [intOf]; omega
        · have HF := hidden (hd.out.bad hct.out hsg (by omega))
          clear hd
          by_cases hlo : c < 48
          · by_cases h45 : c = 45
            · have hbe : (c == 45) = true := by simp [h45]
              have hkz := hpick h45
              clear hpick hsg hok h45
              go_wp2_with fail
              go_ret
              exact ⟨by rw [HF.out]; rfl, Below.refl _ _⟩
            · have hbe : (c == 45) = false := by simp [h45]
              clear hpick hsg hok h45
              go_wp2_with fail
              go_ret
              exact ⟨by rw [HF.out]; rfl, Below.refl _ _⟩
          · have hbe : (c == 45) = false := by simp; omega
            by_cases hhi : 57 < c
            · clear hpick hsg hok
              go_wp2_with fail
              go_ret
              exact ⟨by rw [HF.out]; rfl, Below.refl _ _⟩
            · have l3 : 5 < (k : Int) := by omega
              clear hpick hsg hok
              go_wp2_with fail
              go_ret
              exact ⟨by rw [HF.out]; rfl, Below.refl _ _⟩
    · have hi : ¬ (k : Int) < (s.size : Int) := by omega
      have hks : k = s.size := by omega
      have HFU := hidden (hd.out.fin (by rw [HLEN.out]; omega))
      have go : ∀ m : Int, (if t.head? = some 45 then -n else n) = m → Hid (rdNum t = if strOfNums (numL m) = s then m else 99999) := fun m hm => by
        show _ = _
        rw [rdNum_some HFU.out hm, ← HT.out]
        by_cases e : numL m = numsOf s
        · rw [if_pos e, if_pos (numT_eq.2 e)]
        · rw [if_neg e, if_neg (fun e' => e (numT_eq.1 e'))]
      have HGO := hidden go
      clear go hd
      by_cases hz : s.size = 0
      · have hem : s.toList.isEmpty = true := by
          rw [toList_data]
          have : s.data.toList = [] := List.eq_nil_of_length_eq_zero (by rw [Array.length_toList]; exact hz)
          rw [this]; rfl
        have hh : t.head? = none := by
          have : t = [] := List.eq_nil_of_length_eq_zero (by rw [HLEN.out]; exact hz)
          rw [this]; rfl
        have HG := hidden (HGO.out n (by rw [hh, if_neg (by simp)])).out
        clear HGO hh
        obtain ⟨V, hV⟩ : ∃ V, strOfNums (numL (n)) = V := ⟨_, rfl⟩
        have HN := hidden (l8Number_any wr (n) (by omega) (by omega))
        rw [hV] at HN HG
        clear hV
        by_cases hvs : V = s
        · have hss : (V.toList == s.toList) = true := by rw [hvs]; exact beq_self_eq_true _
          have HF : Hid (rdNum t = n) := by show _ = _; rw [HG.out, if_pos hvs]
          clear hvs HG
          go_wp2_with fail
          refine HN.out.mono ?_
          clear HN
          rintro e w2 ⟨rfl, hb2⟩
          have HB := hidden hb2
          clear hb2
          go_wp2_with fail
          go_ret
          exact ⟨by rw [HF.out]; rfl, HB.out⟩
        · have hss : (V.toList == s.toList) = false := str_ne hvs
          have HF : Hid (rdNum t = 99999) := by show _ = _; rw [HG.out, if_neg hvs]
          clear hvs HG
          go_wp2_with fail
          refine HN.out.mono ?_
          clear HN
          rintro e w2 ⟨rfl, hb2⟩
          have HB := hidden hb2
          clear hb2
          go_wp2_with fail
          go_ret
          exact ⟨by rw [HF.out]; rfl, HB.out⟩
      · have hem : s.toList.isEmpty = false := by
          rw [toList_data]
          rcases e : s.data.toList with _ | ⟨x, r⟩
          · have := congrArg List.length e
            rw [Array.length_toList] at this
            exact absurd this hz
          · rfl
        have hp : 0 < s.size := by omega
        obtain ⟨c, hc⟩ : ∃ c : Int, ((s[0].toNat : Nat) : Int) = c := ⟨_, rfl⟩
        have hh : t.head? = some c := by rw [List.head?_eq_getElem?, ← HT.out, ← hc]; exact numsOf_at hp
        by_cases h45 : c = 45
        · have hbe : (c == 45) = true := by simp [h45]
          have HG := hidden (HGO.out (-n) (by rw [hh, if_pos (by rw [h45])])).out
          have hwn : IntKind.i64.wrap (-n) = -n := IntWalk.i64_in _ (by omega)
          clear HGO hh h45
          obtain ⟨V, hV⟩ : ∃ V, strOfNums (numL (-n)) = V := ⟨_, rfl⟩
          have HN := hidden (l8Number_any wr (-n) (by omega) (by omega))
          rw [hV] at HN HG
          clear hV
          by_cases hvs : V = s
          · have hss : (V.toList == s.toList) = true := by rw [hvs]; exact beq_self_eq_true _
            have HF : Hid (rdNum t = -n) := by show _ = _; rw [HG.out, if_pos hvs]
            clear hvs HG
            go_wp2_with fail
            refine HN.out.mono ?_
            clear HN
            rintro e w2 ⟨rfl, hb2⟩
            have HB := hidden hb2
            clear hb2
            go_wp2_with fail
            go_ret
            exact ⟨by rw [HF.out]; rfl, HB.out⟩
          · have hss : (V.toList == s.toList) = false := str_ne hvs
            have HF : Hid (rdNum t = 99999) := by show _ = _; rw [HG.out, if_neg hvs]
            clear hvs HG
            go_wp2_with fail
            refine HN.out.mono ?_
            clear HN
            rintro e w2 ⟨rfl, hb2⟩
            have HB := hidden hb2
            clear hb2
            go_wp2_with fail
            go_ret
            exact ⟨by rw [HF.out]; rfl, HB.out⟩
        · have hbe : (c == 45) = false := by simp [h45]
          have HG := hidden (HGO.out n (by rw [hh, if_neg (by simp; exact h45)])).out
          clear HGO hh h45
          obtain ⟨V, hV⟩ : ∃ V, strOfNums (numL (n)) = V := ⟨_, rfl⟩
          have HN := hidden (l8Number_any wr (n) (by omega) (by omega))
          rw [hV] at HN HG
          clear hV
          by_cases hvs : V = s
          · have hss : (V.toList == s.toList) = true := by rw [hvs]; exact beq_self_eq_true _
            have HF : Hid (rdNum t = n) := by show _ = _; rw [HG.out, if_pos hvs]
            clear hvs HG
            go_wp2_with fail
            refine HN.out.mono ?_
            clear HN
            rintro e w2 ⟨rfl, hb2⟩
            have HB := hidden hb2
            clear hb2
            go_wp2_with fail
            go_ret
            exact ⟨by rw [HF.out]; rfl, HB.out⟩
          · have hss : (V.toList == s.toList) = false := str_ne hvs
            have HF : Hid (rdNum t = 99999) := by show _ = _; rw [HG.out, if_neg hvs]
            clear hvs HG
            go_wp2_with fail
            refine HN.out.mono ?_
            clear HN
            rintro e w2 ⟨rfl, hb2⟩
            have HB := hidden hb2
            clear hb2
            go_wp2_with fail
            go_ret
            exact ⟨by rw [HF.out]; rfl, HB.out⟩
end Go.Proofs.YtpfombelhajmlaaGreatDoor

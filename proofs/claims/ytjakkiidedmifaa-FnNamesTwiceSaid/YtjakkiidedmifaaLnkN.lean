/-
  impl.namesUsed, impl.NamesTwice and impl.NamesMissing.
-/
import Derived.Test.YtjakkiidedmifaaLnkF
import Derived.Test.YtjakkiidedmifaaNamesJ
import Derived.Test.YtjakkiidedmifaaIter
namespace Go.Proofs.Ytjakkiidedmifaa
open Go.RowKit Go.Maps Go.Sort

/-- Names in a row of their own. -/
def AnsT (w : World) (R : List ByteArray) (e : Ending) (w' : World) : Prop :=
  ∃ (a : Option Addr) (c : Nat), e = .returned (.slice a R.length c) ∧ w'.ownsRow w.heap.size 9 1 (.slice a R.length c) R.length (R.map Value.string) ∧ Below w.heap.size w w'
theorem row_lowerT' {w : World} {base base' : Nat} {e : TypeId} {size : Nat} {v : Value} {n : Nat} {xs : List Value} (h : w.ownsRow base e size v n xs) (hb : base' ≤ base) : w.ownsRow base' e size v n xs := by
  obtain ⟨h1, h2⟩ := h
  refine ⟨h1, ?_⟩
  rcases h2 with h2 | ⟨g, cap, cur, q1, q2, q3⟩
  · exact .inl h2
  · exact .inr ⟨g, cap, cur, q1, Nat.le_trans hb q2, q3⟩
theorem own_shapeT {W : World} {base : Nat} {T : TypeId} {size : Nat} {v : Value} {n : Nat} {xs : List Value} (h : W.ownsRow base T size v n xs) : ∃ a c, v = .slice a n c := by
  rcases h.2 with ⟨rfl, h0⟩ | ⟨g, cap, cur, e, _⟩
  · exact ⟨none, 0, by rw [h0]⟩
  · exact ⟨_, _, e⟩
theorem strKeys_size (D : DataW Unit) : (strKeys D).length ≤ Maps.size D := by
  unfold strKeys Maps.size
  split <;> simp
/-- The keys of the map, sorted. -/
theorem UseMap.keys {w : World} {b cnt : Nat} {P : List It} {D : DataW Unit} (hown : w.ownsMap Try.prog 9 useElem b cnt D) (hh : ∀ s, Maps.has D (klS s) = memS (namesP P) s) {ss : List (List UInt8)} (hp : ss.Perm (strKeys D)) :
    (ss.mergeSort (fun x y => decide (x ≤ y))).map encStr = ((namesP P).foldl insertS []).map Value.string ∧ ss.length = ((namesP P).foldl insertS []).length := by
  obtain ⟨S, hS⟩ : ∃ q, (namesP P).foldl insertS [] = q := ⟨_, rfl⟩
  have hsS : SortedS S := by rw [← hS]; exact sorted_fold _ _ List.Pairwise.nil
  have hnd := sorted_nodup hsS
  have hmem : ∀ s, s ∈ S ↔ s ∈ namesP P := fun s => by
    rw [← hS, mem_fold_iff]
    constructor
    · rintro (h | h)
      · cases h
      · exact h
    · exact .inr
  have hT : (S.map fun s => s.data.toList).Perm (strKeys D) := by
    refine Collected.perm (left := fun _ => false) ⟨?_, fun x => ?_⟩ hown Try.law_str Try.underlying9 (fun _ => rfl)
    · refine List.pairwise_map.2 (hnd.imp fun {x y} hne e => hne (ByteArray.ext (Array.toList_inj.1 e)))
    · have e1 : Lit.string x = klS (strL x) := rfl
      rw [e1, hh (strL x), memS_iff, List.mem_map]
      constructor
      · rintro ⟨s, hs, rfl⟩
        rw [strL_data]
        exact ⟨(hmem s).1 hs, rfl⟩
      · rintro ⟨h, _⟩
        exact ⟨strL x, (hmem _).2 h, rfl⟩
  have hpp := hp.trans hT.symm
  have h1 := sorted_once hnd hmem
  rw [hS] at h1 ⊢
  constructor
  · rw [show ss.mergeSort (fun x y => decide (x ≤ y)) = (S.map fun s => s.data.toList).mergeSort (fun x y => decide (x ≤ y)) from mergeSort_of_perm hpp, encStr_strM, h1]
  · rw [hpp.length_eq, List.length_map]
theorem twice_test (w : World) (u : Use) :
    Calls Try.prog 52 #[u.agg] w fun e w' => e = .returned (.bool (isTwice u)) ∧ Below w.heap.size w w' := by
  obtain ⟨ui, ua, ug, us, uw⟩ := u
  unfold Use.agg isTwice
  go_enter Try.func52, Try.ntmps52
  go_wp2_with fail
  go_ret
  exact ⟨ret_bool (by by_cases e : 1 < us <;> simp [e]), (Below.refl _ _).alloc (Nat.le_refl _) _⟩
theorem miss_test (w : World) (u : Use) :
    Calls Try.prog 53 #[u.agg] w fun e w' => e = .returned (.bool (isMiss u)) ∧ Below w.heap.size w w' := by
  obtain ⟨ui, ua, ug, us, uw⟩ := u
  unfold Use.agg isMiss
  rcases uw with _ | _
  · go_enter Try.func53, Try.ntmps53
    go_wp2_with fail
    go_ret
    exact ⟨rfl, (Below.refl _ _).alloc (Nat.le_refl _) _⟩
  · rcases ug with _ | _
    · go_enter Try.func53, Try.ntmps53
      go_wp2_with fail
      go_ret
      exact ⟨rfl, (Below.refl _ _).alloc (Nat.le_refl _) _⟩
    · go_enter Try.func53, Try.ntmps53
      go_wp2_with fail
      go_ret
      exact ⟨rfl, (Below.refl _ _).alloc (Nat.le_refl _) _⟩
theorem filter_next {q : ByteArray → Bool} {S : List ByteArray} {k : Nat} {s : ByteArray} (h : S[k]? = some s) : (S.take (k + 1)).filter q = (S.take k).filter q ++ if q s then [s] else [] := by
  rw [List.take_add_one, h, List.filter_append]
  cases hq : q s <;> simp [hq]
set_option maxRecDepth 100000 in
set_option maxHeartbeats 4000000 in
theorem namesUsed_twice (w : World) (B : Nat) (a : Option Addr) (c n : Nat) (L : List Oj) (hn : n = L.length) (h : Objs w B a L) (hB : B ≤ w.heap.size) (hv : validA (L.map Oj.o) = true) (hf : ∀ y ∈ L, y.fits) :
    Calls Try.prog 51 #[.slice a n c, .func (.func 52) #[] #[]] w (AnsT w (pickA isTwice (L.map Oj.o))) := by
  obtain ⟨i0, hi, hz0, hz1, hz2⟩ := info_parts Try.info_str
  obtain ⟨q1, q2⟩ := valid_few hv
  have HNU := hidden (nameUses_any w B a c n L hn h hB (by omega) (fun y hy => ⟨(q2 y hy).2, fun x hx => ((hf y hy).2.2.2 x hx).name⟩))
  rw [← itemsA_is hn] at HNU
  obtain ⟨P, hP⟩ : ∃ q, itemsA (L.map Oj.o) = q := ⟨_, rfl⟩
  rw [hP] at HNU
  obtain ⟨S, hS⟩ : ∃ q, (namesP P).foldl insertS [] = q := ⟨_, rfl⟩
  have hR : pickA isTwice (L.map Oj.o) = S.filter fun s => isTwice (useOf s P) := by unfold pickA; rw [if_pos hv, hP, hS]
  rw [hR]
  obtain ⟨RR, hRR⟩ : ∃ q, (S.filter fun s => isTwice (useOf s P)) = q := ⟨_, rfl⟩
  rw [hRR]
  have HRR := hidden hRR
  have hnm : ∀ s ∈ S, s.size ≤ maxLen := fun s hs => by
    rw [← hS] at hs
    rcases mem_fold _ _ _ hs with h | h
    · cases h
    · unfold namesP at h
      obtain ⟨x, hx, rfl⟩ := List.mem_map.1 h
      rw [← hP] at hx
      obtain ⟨o, ho, hm⟩ := mem_itemsA.1 hx
      rw [List.getElem?_map] at ho
      obtain ⟨y, hy, rfl⟩ := Option.map_eq_some_iff.1 ho
      exact ((hf y (List.mem_of_getElem? hy)).2.2.2 x.m (List.mem_of_getElem? hm)).name
  have HNM := hidden hnm
  have HS := hidden hS
  clear hn h hB hv hf q1 q2 hR hnm hS hP hRR
  go_enter Try.func51, Try.ntmps51
  go_wp2_with fail
  refine HNU.out.mono ?_
  clear HNU
  rintro e w1 ⟨b, rfl, hbl, hmap, hb1⟩
  have hmap0 := hmap
  obtain ⟨D, hown, hhas, hat⟩ := hmap0
  have hsz : Maps.size D ≤ 48 := hown.size_le
  have HK := hidden (callsIn_wide.1 (Try.maps_Keys_72 (some b) w1))
  have HSO := hidden (callsIn_wide.1 (Try.slices_Sorted_keys_71_72 b 48 D useElem w1 hown (by unfold maxLen; omega) (by omega)))
  have HKE := hidden (fun (ss : List (List UInt8)) (hp : ss.Perm (strKeys D)) => UseMap.keys (P := P) hown hhas hp)
  have HMP := hidden hmap
  have HB1 := hidden hb1
  have hba : Below w1.heap.size w1 (w1.alloc (.cells #[.map (some b)] 63)) := (Below.refl _ _).alloc (Nat.le_refl _) _
  have HBA := hidden hba
  have HSZ := hidden hsz
  clear hmap hown hhas hat hsz hba hb1
  go_wp2_with fail
  refine HK.out.mono ?_
  clear HK
  rintro e w2 ⟨rfl, rfl⟩
  go_wp2_with fail
  refine HSO.out.mono ?_
  clear HSO
  rintro e w3 ⟨v, ss, rfl, hpm, hrow, -, hb3⟩
  obtain ⟨hk1, hk2⟩ := HKE.out ss hpm
  rw [hk1, hk2, HS.out] at hrow
  obtain ⟨sa, sc, rfl⟩ := own_shapeT hrow
  obtain ⟨N, hN⟩ : ∃ q, S.length = q := ⟨_, rfl⟩
  have hN48 : N ≤ 48 := by
    rw [← hN, ← HS.out, ← hk2, hpm.length_eq]
    exact Nat.le_trans (strKeys_size D) HSZ.out
  have hvals : Vals w3 w3.heap.size sa (S.map Value.string) := by
    have hl : S.length = (S.map Value.string).length := by rw [List.length_map]
    rw [hl] at hrow
    obtain ⟨a', c', e', _, h4⟩ := vals_of_own hrow
    injection e' with e1
    subst e1
    exact h4
  have HN := hidden hN
  have HV := hidden hvals
  have HM3 := hidden ((HMP.out.kept (grown_below HBA.out) (by simp)).kept (grown_below hb3) (by simp))
  have HB3 := hidden (HB1.out.trans ((HBA.out.trans (hb3.mono HBA.out.size)).mono HB1.out.size))
  rw [hN]
  clear hpm hrow hb3 hk1 hk2 hN hvals HSZ HMP HBA HKE HB1 HS
  go_wp2_with fail
  go_loopw [6, 15] (fun rv kv wr => ∃ (k : Nat) (R : List ByteArray), kv = .int .i64 k ∧ k ≤ N ∧ Hid (R = (S.take k).filter fun s => isTwice (useOf s P)) ∧ R.length ≤ k ∧ Hid (wr.ownsRow w3.heap.size 9 1 rv R.length (R.map Value.string)) ∧ Hid (Below w3.heap.size w3 wr)) (fun _ kv _ => N - (intOf kv).toNat)
  case atStart => exact ⟨0, [], rfl, Nat.zero_le _, hidden (by simp), by simp, World.ownsRow_nil _ _ _ _, Below.refl _ _⟩
  case round =>
    obtain ⟨k, R, rfl, hk, hR, hRl, hrow, hb⟩ := hrel
    by_cases hlt : k < N
    · have hik : (k : Int) < (N : Int) := by omega
      obtain ⟨s, hs⟩ : ∃ s, S[k]? = some s := ⟨_, List.getElem?_eq_getElem (by rw [HN.out]; exact hlt)⟩
      obtain ⟨gb, off, rfl, hgb, hc⟩ := HV.out (by rw [List.length_map, HN.out]; omega)
      have e1 : wr.cell? ⟨gb, off + k, none⟩ = some (.string s) := (hb.out.cell hgb).trans (hc k _ (by rw [List.getElem?_map, hs]; rfl))
      have hlk := (HM3.out.kept (grown_below hb.out) (by simp)).look (HNM.out s (List.mem_of_getElem? hs))
      obtain ⟨tk, htk⟩ : ∃ q, isTwice (useOf s P) = q := ⟨_, rfl⟩
      have hT := twice_test wr (useOf s P)
      rw [htk] at hT
      have HT := hidden hT
      have HRN : Hid ((S.take (k + 1)).filter (fun s => isTwice (useOf s P)) = R ++ if tk then [s] else []) := by show _ = _; rw [filter_next hs, ← hR.out, htk]
      clear hs hc hgb hT htk hR
      go_wp2_with fail
      refine HT.out.mono ?_
      clear HT hlk e1
      rintro e w4 ⟨rfl, hb4⟩
      have HB4 := hidden (hb.out.trans (hb4.mono hb.out.size))
      have HR4 := hidden (hrow.out.kept (grown_below hb4) (Classical.em _))
      clear hb4 hb hrow
      rcases tk with _ | _
      · have HR5 : Hid (R = (S.take (k + 1)).filter fun s => isTwice (useOf s P)) := by have e := HRN.out; simp at e; exact e.symm
        clear HRN
        go_wp2_with fail
        go_roundw
        case rel => exact ⟨k + 1, R, by go_num, by omega, HR5, by omega, HR4, HB4⟩
        case measure => simp [intOf]; omega
      · have HR5 : Hid (R ++ [s] = (S.take (k + 1)).filter fun s => isTwice (useOf s P)) := by have e := HRN.out; simp at e; exact e.symm
        have hnb : Hid (∀ q, _ = some q → w3.heap.size ≤ q) := fun q hq => (HR4.out.lt q hq).1
        have s4 := HB4.out.size
        have hk48 : R.length ≤ 48 := by omega
        clear HRN
        go_wp2_with (at_builtin; refine wpList_append_own _ rfl _ _ 28 rfl w3.heap.size 9 i0 (.string ⟨#[]⟩) 1 16 Try.underlying28 hi hz0 hz1 hz2 rfl (by decide) _ _ _ rfl (HR4.out.alloc _) ⟨w4.heap.size, 0, none⟩ 1 1 [.string s] rfl rfl ?c1 ?c2 ?c3 ?c4 ?c5 ?_)
        case c1 =>
          intro t u ht
          match t, ht with
          | 0, ht => simp at ht; subst ht; simp [Addr.add]
        case c2 => intro u hu; simp at hu; subst hu; rfl
        case c3 => unfold maxLen; omega
        case c4 => omega
        case c5 => simp; omega
        · intro v' w5 hown5 hgrow _
          have HR6 : Hid (w5.ownsRow w3.heap.size 9 1 v' (R ++ [s]).length ((R ++ [s]).map Value.string)) := by
            show World.ownsRow _ _ _ _ _ _ _
            simpa using hown5
          have HB6 : Hid (Below w3.heap.size w3 w5) := (HB4.out.alloc s4 _).grown hgrow (Nat.le_trans s4 (by simp)) (fun q hq => hnb.out q hq)
          clear hown5 hgrow hnb HR4 HB4
          go_wp2_with fail
          go_roundw
          case rel => exact ⟨k + 1, R ++ [s], by go_num, by omega, HR5, by rw [List.length_append, List.length_singleton]; omega, HR6, HB6⟩
          case measure => simp [intOf]; omega
    · have hik : ¬ (k : Int) < (N : Int) := by omega
      have hRE : RR = R := by rw [← HRR.out, hR.out, List.take_of_length_le (by rw [HN.out]; omega)]
      subst hRE
      obtain ⟨ra, rc, rfl⟩ := own_shapeT hrow.out
      have HF : Hid (AnsT w RR (.returned (.slice ra RR.length rc)) wr) := ⟨ra, rc, rfl, row_lowerT' hrow.out HB3.out.size, HB3.out.trans (hb.out.mono HB3.out.size)⟩
      clear hR HRR hrow hb
      go_wp2_with fail
      go_ret
      exact HF.out
set_option maxRecDepth 100000 in
set_option maxHeartbeats 4000000 in
theorem namesUsed_miss (w : World) (B : Nat) (a : Option Addr) (c n : Nat) (L : List Oj) (hn : n = L.length) (h : Objs w B a L) (hB : B ≤ w.heap.size) (hv : validA (L.map Oj.o) = true) (hf : ∀ y ∈ L, y.fits) :
    Calls Try.prog 51 #[.slice a n c, .func (.func 53) #[] #[]] w (AnsT w (pickA isMiss (L.map Oj.o))) := by
  obtain ⟨i0, hi, hz0, hz1, hz2⟩ := info_parts Try.info_str
  obtain ⟨q1, q2⟩ := valid_few hv
  have HNU := hidden (nameUses_any w B a c n L hn h hB (by omega) (fun y hy => ⟨(q2 y hy).2, fun x hx => ((hf y hy).2.2.2 x hx).name⟩))
  rw [← itemsA_is hn] at HNU
  obtain ⟨P, hP⟩ : ∃ q, itemsA (L.map Oj.o) = q := ⟨_, rfl⟩
  rw [hP] at HNU
  obtain ⟨S, hS⟩ : ∃ q, (namesP P).foldl insertS [] = q := ⟨_, rfl⟩
  have hR : pickA isMiss (L.map Oj.o) = S.filter fun s => isMiss (useOf s P) := by unfold pickA; rw [if_pos hv, hP, hS]
  rw [hR]
  obtain ⟨RR, hRR⟩ : ∃ q, (S.filter fun s => isMiss (useOf s P)) = q := ⟨_, rfl⟩
  rw [hRR]
  have HRR := hidden hRR
  have hnm : ∀ s ∈ S, s.size ≤ maxLen := fun s hs => by
    rw [← hS] at hs
    rcases mem_fold _ _ _ hs with h | h
    · cases h
    · unfold namesP at h
      obtain ⟨x, hx, rfl⟩ := List.mem_map.1 h
      rw [← hP] at hx
      obtain ⟨o, ho, hm⟩ := mem_itemsA.1 hx
      rw [List.getElem?_map] at ho
      obtain ⟨y, hy, rfl⟩ := Option.map_eq_some_iff.1 ho
      exact ((hf y (List.mem_of_getElem? hy)).2.2.2 x.m (List.mem_of_getElem? hm)).name
  have HNM := hidden hnm
  have HS := hidden hS
  clear hn h hB hv hf q1 q2 hR hnm hS hP hRR
  go_enter Try.func51, Try.ntmps51
  go_wp2_with fail
  refine HNU.out.mono ?_
  clear HNU
  rintro e w1 ⟨b, rfl, hbl, hmap, hb1⟩
  have hmap0 := hmap
  obtain ⟨D, hown, hhas, hat⟩ := hmap0
  have hsz : Maps.size D ≤ 48 := hown.size_le
  have HK := hidden (callsIn_wide.1 (Try.maps_Keys_72 (some b) w1))
  have HSO := hidden (callsIn_wide.1 (Try.slices_Sorted_keys_71_72 b 48 D useElem w1 hown (by unfold maxLen; omega) (by omega)))
  have HKE := hidden (fun (ss : List (List UInt8)) (hp : ss.Perm (strKeys D)) => UseMap.keys (P := P) hown hhas hp)
  have HMP := hidden hmap
  have HB1 := hidden hb1
  have hba : Below w1.heap.size w1 (w1.alloc (.cells #[.map (some b)] 63)) := (Below.refl _ _).alloc (Nat.le_refl _) _
  have HBA := hidden hba
  have HSZ := hidden hsz
  clear hmap hown hhas hat hsz hba hb1
  go_wp2_with fail
  refine HK.out.mono ?_
  clear HK
  rintro e w2 ⟨rfl, rfl⟩
  go_wp2_with fail
  refine HSO.out.mono ?_
  clear HSO
  rintro e w3 ⟨v, ss, rfl, hpm, hrow, -, hb3⟩
  obtain ⟨hk1, hk2⟩ := HKE.out ss hpm
  rw [hk1, hk2, HS.out] at hrow
  obtain ⟨sa, sc, rfl⟩ := own_shapeT hrow
  obtain ⟨N, hN⟩ : ∃ q, S.length = q := ⟨_, rfl⟩
  have hN48 : N ≤ 48 := by
    rw [← hN, ← HS.out, ← hk2, hpm.length_eq]
    exact Nat.le_trans (strKeys_size D) HSZ.out
  have hvals : Vals w3 w3.heap.size sa (S.map Value.string) := by
    have hl : S.length = (S.map Value.string).length := by rw [List.length_map]
    rw [hl] at hrow
    obtain ⟨a', c', e', _, h4⟩ := vals_of_own hrow
    injection e' with e1
    subst e1
    exact h4
  have HN := hidden hN
  have HV := hidden hvals
  have HM3 := hidden ((HMP.out.kept (grown_below HBA.out) (by simp)).kept (grown_below hb3) (by simp))
  have HB3 := hidden (HB1.out.trans ((HBA.out.trans (hb3.mono HBA.out.size)).mono HB1.out.size))
  rw [hN]
  clear hpm hrow hb3 hk1 hk2 hN hvals HSZ HMP HBA HKE HB1 HS
  go_wp2_with fail
  go_loopw [6, 15] (fun rv kv wr => ∃ (k : Nat) (R : List ByteArray), kv = .int .i64 k ∧ k ≤ N ∧ Hid (R = (S.take k).filter fun s => isMiss (useOf s P)) ∧ R.length ≤ k ∧ Hid (wr.ownsRow w3.heap.size 9 1 rv R.length (R.map Value.string)) ∧ Hid (Below w3.heap.size w3 wr)) (fun _ kv _ => N - (intOf kv).toNat)
  case atStart => exact ⟨0, [], rfl, Nat.zero_le _, hidden (by simp), by simp, World.ownsRow_nil _ _ _ _, Below.refl _ _⟩
  case round =>
    obtain ⟨k, R, rfl, hk, hR, hRl, hrow, hb⟩ := hrel
    by_cases hlt : k < N
    · have hik : (k : Int) < (N : Int) := by omega
      obtain ⟨s, hs⟩ : ∃ s, S[k]? = some s := ⟨_, List.getElem?_eq_getElem (by rw [HN.out]; exact hlt)⟩
      obtain ⟨gb, off, rfl, hgb, hc⟩ := HV.out (by rw [List.length_map, HN.out]; omega)
      have e1 : wr.cell? ⟨gb, off + k, none⟩ = some (.string s) := (hb.out.cell hgb).trans (hc k _ (by rw [List.getElem?_map, hs]; rfl))
      have hlk := (HM3.out.kept (grown_below hb.out) (by simp)).look (HNM.out s (List.mem_of_getElem? hs))
      obtain ⟨tk, htk⟩ : ∃ q, isMiss (useOf s P) = q := ⟨_, rfl⟩
      have hT := miss_test wr (useOf s P)
      rw [htk] at hT
      have HT := hidden hT
      have HRN : Hid ((S.take (k + 1)).filter (fun s => isMiss (useOf s P)) = R ++ if tk then [s] else []) := by show _ = _; rw [filter_next hs, ← hR.out, htk]
      clear hs hc hgb hT htk hR
      go_wp2_with fail
      refine HT.out.mono ?_
      clear HT hlk e1
      rintro e w4 ⟨rfl, hb4⟩
      have HB4 := hidden (hb.out.trans (hb4.mono hb.out.size))
      have HR4 := hidden (hrow.out.kept (grown_below hb4) (Classical.em _))
      clear hb4 hb hrow
      rcases tk with _ | _
      · have HR5 : Hid (R = (S.take (k + 1)).filter fun s => isMiss (useOf s P)) := by have e := HRN.out; simp at e; exact e.symm
        clear HRN
        go_wp2_with fail
        go_roundw
        case rel => exact ⟨k + 1, R, by go_num, by omega, HR5, by omega, HR4, HB4⟩
        case measure => simp [intOf]; omega
      · have HR5 : Hid (R ++ [s] = (S.take (k + 1)).filter fun s => isMiss (useOf s P)) := by have e := HRN.out; simp at e; exact e.symm
        have hnb : Hid (∀ q, _ = some q → w3.heap.size ≤ q) := fun q hq => (HR4.out.lt q hq).1
        have s4 := HB4.out.size
        have hk48 : R.length ≤ 48 := by omega
        clear HRN
        go_wp2_with (at_builtin; refine wpList_append_own _ rfl _ _ 28 rfl w3.heap.size 9 i0 (.string ⟨#[]⟩) 1 16 Try.underlying28 hi hz0 hz1 hz2 rfl (by decide) _ _ _ rfl (HR4.out.alloc _) ⟨w4.heap.size, 0, none⟩ 1 1 [.string s] rfl rfl ?c1 ?c2 ?c3 ?c4 ?c5 ?_)
        case c1 =>
          intro t u ht
          match t, ht with
          | 0, ht => simp at ht; subst ht; simp [Addr.add]
        case c2 => intro u hu; simp at hu; subst hu; rfl
        case c3 => unfold maxLen; omega
        case c4 => omega
        case c5 => simp; omega
        · intro v' w5 hown5 hgrow _
          have HR6 : Hid (w5.ownsRow w3.heap.size 9 1 v' (R ++ [s]).length ((R ++ [s]).map Value.string)) := by
            show World.ownsRow _ _ _ _ _ _ _
            simpa using hown5
          have HB6 : Hid (Below w3.heap.size w3 w5) := (HB4.out.alloc s4 _).grown hgrow (Nat.le_trans s4 (by simp)) (fun q hq => hnb.out q hq)
          clear hown5 hgrow hnb HR4 HB4
          go_wp2_with fail
          go_roundw
          case rel => exact ⟨k + 1, R ++ [s], by go_num, by omega, HR5, by rw [List.length_append, List.length_singleton]; omega, HR6, HB6⟩
          case measure => simp [intOf]; omega
    · have hik : ¬ (k : Int) < (N : Int) := by omega
      have hRE : RR = R := by rw [← HRR.out, hR.out, List.take_of_length_le (by rw [HN.out]; omega)]
      subst hRE
      obtain ⟨ra, rc, rfl⟩ := own_shapeT hrow.out
      have HF : Hid (AnsT w RR (.returned (.slice ra RR.length rc)) wr) := ⟨ra, rc, rfl, row_lowerT' hrow.out HB3.out.size, HB3.out.trans (hb.out.mono HB3.out.size)⟩
      clear hR HRR hrow hb
      go_wp2_with fail
      go_ret
      exact HF.out
set_option maxRecDepth 100000 in
set_option maxHeartbeats 2000000 in
theorem namesTwice_any (w : World) (B : Nat) (a : Option Addr) (c n : Nat) (L : List Oj) (hn : n = L.length) (h : Objs w B a L) (hB : B ≤ w.heap.size) (hlen : n ≤ 9223372036854775807) (hf : ∀ y ∈ L, y.fits) :
    Calls Try.prog 25 #[.slice a n c] w (AnsT w (pickA isTwice (L.map Oj.o))) := by
  have HOV := hidden (objectsValid_any w B a c n L hn h hB hlen hf)
  obtain ⟨ok, hok⟩ : ∃ q, validA (L.map Oj.o) = q := ⟨_, rfl⟩
  rw [hok] at HOV
  have HNU : Hid (∀ W, Below w.heap.size w W → ok = true → Calls Try.prog 51 #[.slice a n c, .func (.func 52) #[] #[]] W (AnsT W (pickA isTwice (L.map Oj.o)))) := fun W hW e =>
    namesUsed_twice W B a c n L hn (h.below (hW.mono hB)) (Nat.le_trans hB hW.size) (hok.trans e) hf
  have HNO : Hid (ok = false → pickA isTwice (L.map Oj.o) = []) := fun e => by unfold pickA; rw [hok, e]; rfl
  obtain ⟨R, hR⟩ : ∃ q, pickA isTwice (L.map Oj.o) = q := ⟨_, rfl⟩
  rw [hR] at HNU HNO ⊢
  obtain ⟨N, hN⟩ : ∃ q, R.length = q := ⟨_, rfl⟩
  unfold AnsT at HNU ⊢
  rw [hN] at HNU ⊢
  clear hok hR hn h hB hlen hf
  go_enter Try.func25, Try.ntmps25
  go_wp2_with fail
  refine HOV.out.mono ?_
  clear HOV
  rintro e w1 ⟨rfl, hb1⟩
  rcases ok with _ | _
  · have hR0 := HNO.out rfl
    subst hR0
    have hN0 : 0 = N := hN
    subst hN0
    clear HNU HNO hN
    go_wp2_with fail
    go_ret
    exact ⟨none, 0, rfl, World.ownsRow_nil _ _ _ _, hb1⟩
  · have HN1 := hidden (HNU.out w1 hb1 rfl)
    have HB1 := hidden hb1
    have HNE := hidden hN
    clear HNU HNO hb1 hN
    go_wp2_with fail
    refine HN1.out.mono ?_
    clear HN1
    rintro e w2 ⟨ra, rc, rfl, hrow, hb2⟩
    have HR := hidden (row_lowerT' hrow HB1.out.size)
    have HB2 := hidden (HB1.out.trans (hb2.mono HB1.out.size))
    clear hrow hb2
    go_wp2_with fail
    go_ret
    exact ⟨ra, rc, rfl, HR.out, HB2.out⟩
set_option maxRecDepth 100000 in
set_option maxHeartbeats 2000000 in
theorem namesMissing_any (w : World) (B : Nat) (a : Option Addr) (c n : Nat) (L : List Oj) (hn : n = L.length) (h : Objs w B a L) (hB : B ≤ w.heap.size) (hlen : n ≤ 9223372036854775807) (hf : ∀ y ∈ L, y.fits) :
    Calls Try.prog 28 #[.slice a n c] w (AnsT w (pickA isMiss (L.map Oj.o))) := by
  have HOV := hidden (objectsValid_any w B a c n L hn h hB hlen hf)
  obtain ⟨ok, hok⟩ : ∃ q, validA (L.map Oj.o) = q := ⟨_, rfl⟩
  rw [hok] at HOV
  have HNU : Hid (∀ W, Below w.heap.size w W → ok = true → Calls Try.prog 51 #[.slice a n c, .func (.func 53) #[] #[]] W (AnsT W (pickA isMiss (L.map Oj.o)))) := fun W hW e =>
    namesUsed_miss W B a c n L hn (h.below (hW.mono hB)) (Nat.le_trans hB hW.size) (hok.trans e) hf
  have HNO : Hid (ok = false → pickA isMiss (L.map Oj.o) = []) := fun e => by unfold pickA; rw [hok, e]; rfl
  obtain ⟨R, hR⟩ : ∃ q, pickA isMiss (L.map Oj.o) = q := ⟨_, rfl⟩
  rw [hR] at HNU HNO ⊢
  obtain ⟨N, hN⟩ : ∃ q, R.length = q := ⟨_, rfl⟩
  unfold AnsT at HNU ⊢
  rw [hN] at HNU ⊢
  clear hok hR hn h hB hlen hf
  go_enter Try.func28, Try.ntmps28
  go_wp2_with fail
  refine HOV.out.mono ?_
  clear HOV
  rintro e w1 ⟨rfl, hb1⟩
  rcases ok with _ | _
  · have hR0 := HNO.out rfl
    subst hR0
    have hN0 : 0 = N := hN
    subst hN0
    clear HNU HNO hN
    go_wp2_with fail
    go_ret
    exact ⟨none, 0, rfl, World.ownsRow_nil _ _ _ _, hb1⟩
  · have HN1 := hidden (HNU.out w1 hb1 rfl)
    have HB1 := hidden hb1
    have HNE := hidden hN
    clear HNU HNO hb1 hN
    go_wp2_with fail
    refine HN1.out.mono ?_
    clear HN1
    rintro e w2 ⟨ra, rc, rfl, hrow, hb2⟩
    have HR := hidden (row_lowerT' hrow HB1.out.size)
    have HB2 := hidden (HB1.out.trans (hb2.mono HB1.out.size))
    clear hrow hb2
    go_wp2_with fail
    go_ret
    exact ⟨ra, rc, rfl, HR.out, HB2.out⟩

end Go.Proofs.Ytjakkiidedmifaa

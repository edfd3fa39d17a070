/-
  The walks of FnNameAt and FnPlaceOf, over what is wanted of the program.
-/
import Derived.Test.YtdaddhliedocaaaWant2
import Derived.Test.YtdaddhliedocaaaCame
import Derived.Test.YtdaddhliedocaaaAlign
import Derived.Test.YtdaddhliedocaaaDrawT
import Derived.Test.YtdaddhliedocaaaDrawP
import Derived.Test.YtdaddhliedocaaaNameAtS
import Derived.Test.YtdaddhliedocaaaPlaceS
import Derived.Test.YtdaddhliedocaaaFoundP
import Derived.WalkSpells
import Derived.WalkLawsBesides
import Derived.Handy
import Derived.Laws.BytesArg
import Derived.Laws.DeepStrings4
namespace Go.Proofs.Ytdaddhliedocaaa
open Go.RowKit

theorem beq_str (s : ByteArray) : (s.toList == s.toList) = true := beq_self_eq_true _
theorem str_tail (x : Int) (r : List Int) : (strOfNums (x :: r)).extract 1 (strOfNums (x :: r)).size = strOfNums r := by
  refine ByteArray.ext (Array.ext' ?_)
  rw [ByteArray.data_extract, Array.toList_extract, List.extract_eq_take_drop]
  rw [strOfNums_data, strOfNums_data, List.map_cons, List.drop_one, List.tail_cons]
  exact List.take_of_length_le (by rw [strOfNums_size]; simp)
theorem textVal_some (t : List Int) : textVal (some t) = .tuple #[.string (strOfNums t), .bool true] := rfl
theorem textVal_none : textVal none = .tuple #[.string ⟨#[]⟩, .bool false] := rfl
theorem str_none : (strOfNums []) = ⟨#[]⟩ := rfl
theorem str_some (x : Int) (r : List Int) : strOfNums (x :: r) ≠ ⟨#[]⟩ := fun h => by
  have := congrArg ByteArray.size h
  rw [strOfNums_size] at this
  cases this
set_option maxHeartbeats 2000000 in
theorem law_NameAt (hI : WantNameAt) (w : World) (a0 : Option Addr) (len cap : Nat) (h : Came w a0 len cap) :
    Calls Try.prog 5 #[.slice a0 len cap] w fun e w' => e = .returned (.bool true) ∧ Below w.heap.size w w' := by
  obtain ⟨l0, h, rfl, hcap, hmax⟩ := h
  by_cases hbig : 1048576 < l0.length
  · have hd : (1048576 : Int) < (l0.length : Int) := by omega
    go_enter Try.func5, Try.ntmps5
    go_wp2
    go_ret
    exact ⟨rfl, Below.refl _ _⟩
  have hd : ¬ (1048576 : Int) < (l0.length : Int) := by omega
  go_enter Try.func5, Try.ntmps5
  go_wp2_with fail
  refine (drawNameAt_any w a0 cap l0 h hcap hmax).mono ?_
  rintro e w1 ⟨a, c, l, n, rfl, hlc, hcm, hi, hl9, n0, n1, hb⟩
  clear h
  have hcm' : c ≤ 9223372036854775807 := by unfold maxLen at hcm; omega
  go_wp2_with fail
  refine (hI w1 w1.heap.size a c l hi (Nat.le_refl _) hlc hcm' n (by omega) (by omega)).mono ?_
  rintro e w2 ⟨rfl, hb2⟩
  have hi2 := hi.below hb2
  rcases ht : textAt l n with _ | t
  · have hS := nameAt'_any w2 w1.heap.size a c l hi2 hlc hcm' n
    rw [ht, textVal_none] at hS
    rw [textVal_none]
    clear ht
    go_wp2_with fail
    refine hS.mono ?_
    clear hS
    rintro e _ ⟨rfl, rfl⟩
    go_wp2_with fail
    refine (alive_any _).mono ?_
    rintro e _ ⟨rfl, rfl⟩
    go_wp2_with fail
    go_ret
    exact ⟨rfl, hb.trans (hb2.mono hb.size)⟩
  · have hS := nameAt'_any w2 w1.heap.size a c l hi2 hlc hcm' n
    rw [ht] at hS
    have hbq := beq_str (strOfNums t)
    rcases t with _ | ⟨x, r⟩
    · rw [textVal_some] at hS ⊢
      rw [str_none] at hbq hS ⊢
      clear ht
      go_wp2_with fail
      refine hS.mono ?_
      clear hS
      rintro e _ ⟨rfl, rfl⟩
      go_wp2_with fail
      refine (alive_any _).mono ?_
      rintro e _ ⟨rfl, rfl⟩
      go_wp2_with fail
      go_ret
      exact ⟨rfl, hb.trans (hb2.mono hb.size)⟩
    · have hne : (strOfNums (x :: r)).toList.isEmpty = false := by rw [toList_data, strOfNums_data]; rfl
      obtain ⟨e0, e1, e2⟩ := textAt_ends ht
      have hnx := textAt_next ht
      have hsz : (strOfNums (x :: r)).size = r.length + 1 := by rw [strOfNums_size]; rfl
      obtain ⟨s, hs⟩ : ∃ s, strOfNums (x :: r) = s := ⟨_, rfl⟩
      have htl := str_tail x r
      rw [textVal_some, hs] at hS
      rw [textVal_some]
      rw [hs] at hbq hne hsz htl ⊢
      clear ht
      go_wp2_with fail
      refine hS.mono ?_
      clear hS
      rintro e _ ⟨rfl, rfl⟩
      go_wp2_with fail
      refine (hI w2 w1.heap.size a c l hi2 hb2.size hlc hcm' (n + 1) (by omega) (by omega)).mono ?_
      rintro e w3 ⟨rfl, hb3⟩
      rw [hnx, textVal_some, ← htl]
      obtain ⟨m, rfl⟩ := Int.eq_ofNat_of_zero_le e0
      have hlr : (x :: r).length = s.size := by rw [hsz]; rfl
      rw [hlr] at e1 e2
      have hq : m + s.size < l.length := by omega
      have hsum : ((m : Int) + ((s.size : Nat) : Int)) = ((m + s.size : Nat) : Int) := by omega
      rw [hsum, Int.toNat_natCast] at e2
      obtain ⟨b, off, rfl, hbl, hcs⟩ := (hi2.below (hb3.mono hb2.size)).2 (by omega)
      have hcell := hcs (m + s.size) hq
      rw [e2] at hcell
      have hbq2 := beq_str (s.extract 1 s.size)
      have hs1 : 1 ≤ s.size := by omega
      have hq' : (m : Int) + (s.size : Int) < (l.length : Int) := by omega
      have hq0 : 0 ≤ (m : Int) + (s.size : Int) := by omega
      have htn : ((m : Int) + (s.size : Int)).toNat = m + s.size := by omega
      have hfin : Below w.heap.size w w3 := hb.trans ((hb2.mono hb.size).trans (hb3.mono (Nat.le_trans hb.size hb2.size)))
      have HFin := hidden hfin
      clear hfin hnx htl hcs hb hb2 hb3 hsum hlr e1 e2 hs hi hi2 hI hsz
      go_wp2_with fail
      go_ret
      exact ⟨rfl, HFin.out⟩

end Go.Proofs.Ytdaddhliedocaaa

/-
  Contracts of impl.namesValid and impl.endsOf.
-/
import Derived.Test.YtdaddhliedocaaaNamesI
import Derived.Test.YtdaddhliedocaaaTrieI
import Derived.Test.YtdaddhliedocaaaVals
import Derived.Test.YtdaddhliedocaaaTabP
namespace Go.Proofs.Ytdaddhliedocaaa
open Go.RowKit Go.Maps

theorem namesOk_bad {names : List ByteArray} {k : Nat} {x : ByteArray} (hx : names[k]? = some x) (h : nameOk x.data.toList = false) : namesOk names = false := by
  cases hn : namesOk names with
  | false => rfl
  | true =>
    simp only [namesOk, Bool.and_eq_true, List.all_eq_true] at hn
    have := hn.1 x (List.mem_of_getElem? hx)
    rw [h] at this; cases this
set_option maxHeartbeats 1000000 in
theorem namesValid_any (w : World) (B : Nat) (a : Option Addr) (cap : Nat) (names : List ByteArray) (h : Vals w B a (names.map Value.string)) (hn : names.length ≤ 9223372036854775807) (hs : ∀ x ∈ names, x.size ≤ maxLen) :
    Calls Try.prog 42 #[.slice a names.length cap] w fun e w' => e = .returned (.bool (namesOk names)) ∧ w = w' := by
  obtain ⟨n, hN⟩ : ∃ n, n = names.length := ⟨_, rfl⟩
  rw [← hN] at hn ⊢
  have HN := hidden hN
  have HV := hidden h
  have HS := hidden hs
  clear hN h hs
  by_cases hm : 40 < n
  · have hm' : (40 : Int) < (n : Int) := by omega
    have HF : Hid (namesOk names = false) := by show _ = _; unfold namesOk; rw [← HN.out]; simp; omega
    go_enter Try.func42, Try.ntmps42
    go_wp2_with fail
    go_ret
    exact ⟨ret_bool HF.out.symm, rfl⟩
  have hm' : ¬ (40 : Int) < (n : Int) := by omega
  go_enter Try.func42, Try.ntmps42
  go_wp2_with fail
  go_loop [10] (fun i => ∃ k : Nat, k ≤ n ∧ i = .int .i64 k ∧ Hid (∀ j x, j < k → names[j]? = some x → nameOk x.data.toList = true)) (fun i => n - (intOf i).toNat)
  case atStart => exact ⟨0, Nat.zero_le _, rfl, hidden (by intro j x hj; omega)⟩
  case round =>
    obtain ⟨k, hk, rfl, hall⟩ := hrel
    by_cases hlt : k < n
    · have hkL : k < names.length := by rw [← HN.out]; exact hlt
      have hx : names[k]? = some names[k] := List.getElem?_eq_getElem hkL
      have hxs := HS.out _ (List.getElem_mem hkL)
      obtain ⟨b0, o0, ha, hb0, e⟩ := HV.out.at_ (i := k) (by simpa using hkL)
      subst ha
      obtain ⟨x, hxx⟩ : ∃ x, names[k] = x := ⟨_, rfl⟩
      have e' : w.cell? ⟨b0, o0 + k, none⟩ = some (.string x) := by rw [e]; simp [hxx]
      rw [hxx] at hx hxs
      have HX := hidden hx
      clear hx hxx e hkL
      have hi : (k : Int) < (n : Int) := by omega
      rcases hok : nameOk x.data.toList with _ | _
      · have HF : Hid (namesOk names = false) := namesOk_bad HX.out hok
        have HC := nameValid_any x w hxs
        rw [hok] at HC
        have HCC := hidden HC
        clear hall HC hok
        go_wp2_with (go_at_call 13; refine HCC.out.mono ?_; rintro e w' ⟨rfl, rfl⟩)
        go_ret
        exact ⟨ret_bool HF.out.symm, rfl⟩
      · have HF : Hid (∀ j y, j < k + 1 → names[j]? = some y → nameOk y.data.toList = true) := fun j y hj hy => by
          rcases Nat.lt_or_ge j k with h1 | h1
          · exact hall.out j y h1 hy
          · have : j = k := by omega
            subst this
            rw [HX.out] at hy; injection hy with hy; subst hy; exact hok
        have HC := nameValid_any x w hxs
        rw [hok] at HC
        have HCC := hidden HC
        clear hall HC hok
        go_wp2_with (go_at_call 13; refine HCC.out.mono ?_; rintro e w' ⟨rfl, rfl⟩)
        go_round
        case rel => exact ⟨k + 1, by omega, by go_num, HF⟩
        case measure => simp [intOf]; omega
    · have hi : ¬ (k : Int) < (n : Int) := by omega
      have HF : Hid (namesOk names = true) := by
        show _ = _
        simp only [namesOk, Bool.and_eq_true, List.all_eq_true, decide_eq_true_eq]
        refine ⟨fun x hx => ?_, by rw [← HN.out]; omega⟩
        obtain ⟨j, hj, he⟩ := List.getElem_of_mem hx
        exact hall.out j x (by rw [← HN.out] at hj; omega) (by rw [List.getElem?_eq_getElem hj, he])
      clear hall
      go_wp2_with fail
      go_ret
      exact ⟨ret_bool HF.out.symm, rfl⟩
/-- A tree that has the empty end alone. -/
def rootN (b : Nat) : List UInt8 → Option Nat := fun q => if q = [] then some b else none
theorem Trie.start (w : World) : Trie (newNode w) w.heap.size 0 (rootN (w.heap.size + 1)) := by
  refine ⟨by rw [newNode_size]; omega, fun p b hp => ?_, fun p q b b' m hp hq _ _ => ?_, fun c p hp => ?_⟩
  · unfold rootN at hp
    split at hp
    · rename_i e
      injection hp with hp
      subst e; subst hp
      refine ⟨w.heap.size, .map [], ⟨newNode_cell w, by omega, Nat.le_refl _, newNode_own w 0⟩, fun c => ?_, fun c b' hc => ?_, ⟨fun _ c => ?_, fun _ => rfl⟩⟩
      · simp [rootN]; rfl
      · simp [rootN] at hc
      · simp [rootN]
    · cases hp
  · unfold rootN at hp hq
    split at hp
    · rename_i e1
      split at hq
      · rename_i e2; rw [e1, e2]
      · cases hq
    · cases hp
  · simp [rootN] at hp
set_option maxHeartbeats 1000000 in
theorem endsOf_any (w : World) (B : Nat) (a : Option Addr) (cap : Nat) (names : List ByteArray) (h : Vals w B a (names.map Value.string)) (hB : B ≤ w.heap.size) (hn : names.length ≤ 40) (hs : ∀ x ∈ names, x.size ≤ 8) :
    Calls Try.prog 43 #[.slice a names.length cap] w fun e w' => ∃ root, e = .returned (.pointer (some ⟨root, 0, none⟩)) ∧ ∃ N, Trie w' w.heap.size 400 N ∧ N [] = some root ∧
      (∀ q, (N q).isSome = true ↔ q = [] ∨ ∃ x ∈ names, q <:+ x.data.toList) ∧ Below w.heap.size w w' := by
  obtain ⟨n, hN⟩ : ∃ n, n = names.length := ⟨_, rfl⟩
  rw [← hN] at hn ⊢
  have HN := hidden hN
  have HV := hidden h
  have HS := hidden hs
  clear hN h hs
  go_enter Try.func43, Try.ntmps43
  go_wp2_with (go_at_call 52; refine (newEndTree_any _).mono ?_; rintro e w1 ⟨rfl, rfl⟩)
  go_loopw [9] (fun i wr => ∃ (k : Nat) (N : List UInt8 → Option Nat), k ≤ n ∧ i = .int .i64 k ∧ Hid (Trie wr w.heap.size (8 * k) N) ∧ Hid (N [] = some (w.heap.size + 1)) ∧
    Hid (∀ q, (N q).isSome = true ↔ q = [] ∨ ∃ x ∈ names.take k, q <:+ x.data.toList) ∧ Below w.heap.size w wr) (fun i _ => n - (intOf i).toNat)
  case atStart =>
    refine ⟨0, rootN (w.heap.size + 1), Nat.zero_le _, rfl, hidden (Trie.start w), hidden (if_pos rfl), hidden fun q => ?_, newNode_below w _ (Nat.le_refl _)⟩
    unfold rootN
    by_cases hq : q = [] <;> simp [hq]
  case round =>
    obtain ⟨k, N, hk, rfl, ht, hroot, hdom, hbel⟩ := hrel
    by_cases hlt : k < n
    · have hkL : k < names.length := by rw [← HN.out]; exact hlt
      have hxs := HS.out _ (List.getElem_mem hkL)
      obtain ⟨b0, o0, ha, hb0, e⟩ := (HV.out.below (hbel.mono hB)).at_ (i := k) (by simpa using hkL)
      subst ha
      obtain ⟨x, hxx⟩ : ∃ x, names[k] = x := ⟨_, rfl⟩
      have e' : wr.cell? ⟨b0, o0 + k, none⟩ = some (.string x) := by rw [e]; simp [hxx]
      have HT : Hid (names.take (k + 1) = names.take k ++ [x]) := by
        show _ = _
        rw [List.take_add_one, List.getElem?_eq_getElem hkL, hxx]; rfl
      rw [hxx] at hxs
      have hcall := add_any wr w.heap.size (8 * k) (w.heap.size + 1) N ht.out hroot.out x hxs (by unfold maxLen; omega)
      have HCALL := hidden hcall
      have hi : (k : Int) < (n : Int) := by omega
      clear hcall e hxx hkL ht hroot
      go_wp2_with fail
      refine HCALL.out.mono ?_
      clear HCALL
      rintro e w2 ⟨rfl, N', ht', hroot', hdom', hb'⟩
      have HT' := hidden ht'
      have HR' := hidden hroot'
      have HD' : Hid (∀ q, (N' q).isSome = true ↔ q = [] ∨ ∃ x ∈ names.take (k + 1), q <:+ x.data.toList) := fun q => by
        rw [hdom', hdom.out, HT.out]
        constructor
        · rintro ((h | ⟨y, hy, hq⟩) | h)
          · exact .inl h
          · exact .inr ⟨y, List.mem_append_left _ hy, hq⟩
          · exact .inr ⟨x, by simp, h⟩
        · rintro (h | ⟨y, hy, hq⟩)
          · exact .inl (.inl h)
          · rcases List.mem_append.1 hy with hy | hy
            · exact .inl (.inr ⟨y, hy, hq⟩)
            · simp only [List.mem_singleton] at hy; subst hy; exact .inr hq
      have hb2 := hbel.trans hb'
      clear ht' hroot' hdom' hb' hdom HT hbel
      go_wp2_with fail
      go_roundw
      case rel => exact ⟨k + 1, N', by omega, by go_num, hidden (HT'.out.more (by omega)), HR', HD', hb2⟩
      case measure => simp [intOf]; omega
    · have hi : ¬ (k : Int) < (n : Int) := by omega
      have hkn : k = names.length := by rw [← HN.out]; omega
      have HD : Hid (∀ q, (N q).isSome = true ↔ q = [] ∨ ∃ x ∈ names, q <:+ x.data.toList) := by
        have := hdom.out
        rw [hkn, List.take_length] at this
        exact this
      clear hkn hdom
      go_wp2_with fail
      go_ret
      exact ⟨_, rfl, N, ht.out.more (by omega), hroot.out, HD.out, hbel⟩

end Go.Proofs.Ytdaddhliedocaaa

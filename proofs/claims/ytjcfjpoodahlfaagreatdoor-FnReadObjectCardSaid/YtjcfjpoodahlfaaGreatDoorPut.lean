import Derived.WalkSpells
import Derived.WalkLawsBesides
import Derived.Handy
import Derived.Test.YtjcfjpoodahlfaaGreatDoorNum
import Derived.Test.YtjcfjpoodahlfaaGreatDoorBase
namespace Go.Proofs.YtjcfjpoodahlfaaGreatDoor
open Go.RowKit
def bytesOf (n : Int) (k : Nat) : List Int := (List.range k).map fun j => n / 256 ^ j % 256
theorem bytesOf_length (n : Int) (k : Nat) : (bytesOf n k).length = k := by simp [bytesOf]
theorem bytesOf_wf (n : Int) (k : Nat) : ∀ x ∈ bytesOf n k, (Lit.int .u8 x).wf = true := by
  intro x hx
  simp only [bytesOf, List.mem_map] at hx
  obtain ⟨j, _, rfl⟩ := hx
  exact wf_u8.mpr ⟨Int.emod_nonneg _ (by decide), Int.emod_lt_of_pos _ (by decide)⟩
theorem putNumber_1 (n : Int) (h0 : 0 ≤ n) (hn : n < 256) (w : World) :
    Calls Tryz.prog 97 #[.int .i64 n, .int .i64 1] w fun e w' => e = .returned (.slice (some ⟨w.heap.size, 0, none⟩) 1 1) ∧ w' = w.alloc (.cells #[.int .u8 (n)] 5) := by
  have hmk : ∀ W : World, (Instr.makeSlice 22 (.int .i64 1) (.int .i64 1)).run Tryz.prog W = .ok (.slice (some ⟨W.heap.size, 0, none⟩) 1 1) (W.alloc (.cells #[.int .u8 0] 5)) := fun _ => by kernel_rfl
  go_enter Tryz.func97, Tryz.ntmps97
  go_wp2_with (go_at_call 114; (with_reducible refine (fitsWide_1 _ h0 hn _).mono ?_); rintro e w' ⟨rfl, rfl⟩)
  go_rounds 2
  go_ret
  exact ⟨rfl, rfl⟩
theorem putNumber_2 (n : Int) (h0 : 0 ≤ n) (hn : n < 65536) (w : World) :
    Calls Tryz.prog 97 #[.int .i64 n, .int .i64 2] w fun e w' => e = .returned (.slice (some ⟨w.heap.size, 0, none⟩) 2 2) ∧ w' = w.alloc (.cells #[.int .u8 (n % 256), .int .u8 (n / 256)] 5) := by
  have hmk : ∀ W : World, (Instr.makeSlice 22 (.int .i64 2) (.int .i64 2)).run Tryz.prog W = .ok (.slice (some ⟨W.heap.size, 0, none⟩) 2 2) (W.alloc (.cells #[.int .u8 0, .int .u8 0] 5)) := fun _ => by kernel_rfl
  go_enter Tryz.func97, Tryz.ntmps97
  go_wp2_with (go_at_call 114; (with_reducible refine (fitsWide_2 _ h0 hn _).mono ?_); rintro e w' ⟨rfl, rfl⟩)
  go_rounds 3
  go_ret
  exact ⟨rfl, rfl⟩
theorem putNumber_3 (n : Int) (h0 : 0 ≤ n) (hn : n < 16777216) (w : World) :
    Calls Tryz.prog 97 #[.int .i64 n, .int .i64 3] w fun e w' => e = .returned (.slice (some ⟨w.heap.size, 0, none⟩) 3 3) ∧ w' = w.alloc (.cells #[.int .u8 (n % 256), .int .u8 (n / 256 % 256), .int .u8 (n / 65536)] 5) := by
  have hmk : ∀ W : World, (Instr.makeSlice 22 (.int .i64 3) (.int .i64 3)).run Tryz.prog W = .ok (.slice (some ⟨W.heap.size, 0, none⟩) 3 3) (W.alloc (.cells #[.int .u8 0, .int .u8 0, .int .u8 0] 5)) := fun _ => by kernel_rfl
  go_enter Tryz.func97, Tryz.ntmps97
  go_wp2_with (go_at_call 114; (with_reducible refine (fitsWide_3 _ h0 hn _).mono ?_); rintro e w' ⟨rfl, rfl⟩)
  go_rounds 4
  go_ret
  exact ⟨rfl, rfl⟩
theorem putNumber_4 (n : Int) (h0 : 0 ≤ n) (hn : n < 4294967296) (w : World) :
    Calls Tryz.prog 97 #[.int .i64 n, .int .i64 4] w fun e w' => e = .returned (.slice (some ⟨w.heap.size, 0, none⟩) 4 4) ∧ w' = w.alloc (.cells #[.int .u8 (n % 256), .int .u8 (n / 256 % 256), .int .u8 (n / 65536 % 256), .int .u8 (n / 16777216)] 5) := by
  have hmk : ∀ W : World, (Instr.makeSlice 22 (.int .i64 4) (.int .i64 4)).run Tryz.prog W = .ok (.slice (some ⟨W.heap.size, 0, none⟩) 4 4) (W.alloc (.cells #[.int .u8 0, .int .u8 0, .int .u8 0, .int .u8 0] 5)) := fun _ => by kernel_rfl
  go_enter Tryz.func97, Tryz.ntmps97
  go_wp2_with (go_at_call 114; (with_reducible refine (fitsWide_4 _ h0 hn _).mono ?_); rintro e w' ⟨rfl, rfl⟩)
  go_rounds 5
  go_ret
  exact ⟨rfl, rfl⟩
theorem putNumber_bad (n k : Int) (h : k < 1 ∨ 4 < k) (w : World) :
    Calls Tryz.prog 97 #[.int .i64 n, .int .i64 k] w fun e w' => e = .returned (.slice none 0 0) ∧ w = w' := by
  go_enter Tryz.func97, Tryz.ntmps97
  go_wp2_with (first | (go_at_call 114; (with_reducible refine (fitsWide_bad _ _ h _).mono ?_); rintro e w' ⟨rfl, rfl⟩))
  go_ret
  exact ⟨rfl, rfl⟩
theorem putNumber_neg (n k : Int) (h : 1 ≤ k) (h' : k ≤ 4) (hn : n < 0) (w : World) :
    Calls Tryz.prog 97 #[.int .i64 n, .int .i64 k] w fun e w' => e = .returned (.slice none 0 0) ∧ w = w' := by
  go_enter Tryz.func97, Tryz.ntmps97
  go_wp2_with (first | (go_at_call 114; (with_reducible refine (fitsWide_neg _ _ h h' hn _).mono ?_); rintro e w' ⟨rfl, rfl⟩))
  go_ret
  exact ⟨rfl, rfl⟩
theorem putNumber_big1 (n : Int) (hn : 256 ≤ n) (w : World) :
    Calls Tryz.prog 97 #[.int .i64 n, .int .i64 1] w fun e w' => e = .returned (.slice none 0 0) ∧ w = w' := by
  go_enter Tryz.func97, Tryz.ntmps97
  go_wp2_with (first | (go_at_call 114; (with_reducible refine (fitsWide_big1 _ hn _).mono ?_); rintro e w' ⟨rfl, rfl⟩))
  go_ret
  exact ⟨rfl, rfl⟩
theorem putNumber_big2 (n : Int) (hn : 65536 ≤ n) (w : World) :
    Calls Tryz.prog 97 #[.int .i64 n, .int .i64 2] w fun e w' => e = .returned (.slice none 0 0) ∧ w = w' := by
  go_enter Tryz.func97, Tryz.ntmps97
  go_wp2_with (first | (go_at_call 114; (with_reducible refine (fitsWide_big2 _ hn _).mono ?_); rintro e w' ⟨rfl, rfl⟩))
  go_ret
  exact ⟨rfl, rfl⟩
theorem putNumber_big3 (n : Int) (hn : 16777216 ≤ n) (w : World) :
    Calls Tryz.prog 97 #[.int .i64 n, .int .i64 3] w fun e w' => e = .returned (.slice none 0 0) ∧ w = w' := by
  go_enter Tryz.func97, Tryz.ntmps97
  go_wp2_with (first | (go_at_call 114; (with_reducible refine (fitsWide_big3 _ hn _).mono ?_); rintro e w' ⟨rfl, rfl⟩))
  go_ret
  exact ⟨rfl, rfl⟩
theorem putNumber_big4 (n : Int) (hn : 4294967296 ≤ n) (w : World) :
    Calls Tryz.prog 97 #[.int .i64 n, .int .i64 4] w fun e w' => e = .returned (.slice none 0 0) ∧ w = w' := by
  go_enter Tryz.func97, Tryz.ntmps97
  go_wp2_with (first | (go_at_call 114; (with_reducible refine (fitsWide_big4 _ hn _).mono ?_); rintro e w' ⟨rfl, rfl⟩))
  go_ret
  exact ⟨rfl, rfl⟩
def putList (n k : Int) : List Int := if 1 ≤ k ∧ k ≤ 4 ∧ 0 ≤ n ∧ n < pw k then bytesOf n k.toNat else []
theorem putList_yes {n k : Int} (h1 : 1 ≤ k) (h2 : k ≤ 4) (h3 : 0 ≤ n) (h4 : n < pw k) : putList n k = bytesOf n k.toNat := by unfold putList; rw [if_pos ⟨h1, h2, h3, h4⟩]
theorem putList_no {n k : Int} (h : k < 1 ∨ 4 < k ∨ n < 0 ∨ pw k ≤ n) : putList n k = [] := by unfold putList; rw [if_neg (by omega)]
theorem putList_wf (n k : Int) : ∀ x ∈ putList n k, (Lit.int .u8 x).wf = true := by
  unfold putList; split
  · exact bytesOf_wf _ _
  · intro x hx; simp at hx
theorem putList_short (n k : Int) : (putList n k).length ≤ 4 := by
  unfold putList; split
  · rw [bytesOf_length]; omega
  · simp
def Own (w w' : World) (a : Option Addr) (l : List Int) : Prop :=
  0 < l.length → a = some ⟨w.heap.size, 0, none⟩ ∧ Has w' w.heap.size 5 (l.map (Value.int .u8)).toArray
theorem Own.ints {w w' : World} {a : Option Addr} {n k : Int} (h : Own w w' a (putList n k)) : Ints w' .u8 w'.heap.size a (putList n k) :=
  ⟨putList_wf n k, fun hn => by
    obtain ⟨rfl, hh⟩ := h hn
    exact (Ints.ofHas hh rfl (putList_wf n k) hh.lt).2 hn⟩
theorem put_none {P : Program} {f : FuncId} {args : Array Value} {w : World} {n k : Int} (h : k < 1 ∨ 4 < k ∨ n < 0 ∨ pw k ≤ n) (c : Calls P f args w fun e w' => e = .returned (.slice none 0 0) ∧ w = w') :
    Calls P f args w fun e w' => ∃ a, e = .returned (.slice a (putList n k).length (putList n k).length) ∧ Own w w' a (putList n k) ∧ Below w.heap.size w w' :=
  c.mono fun e w' ⟨he, hw⟩ => by
    subst hw
    rw [putList_no h]
    exact ⟨none, he, fun h => by simp at h, Below.refl _ _⟩
theorem put_some {P : Program} {f : FuncId} {args : Array Value} {w : World} {n k : Int} {m : Nat} {cs : Array Value} (hk : k = m) (h1 : 1 ≤ k) (h2 : k ≤ 4) (h3 : 0 ≤ n) (h4 : n < pw k) (hcs : cs = ((bytesOf n m).map (Value.int .u8)).toArray)
    (c : Calls P f args w fun e w' => e = .returned (.slice (some ⟨w.heap.size, 0, none⟩) m m) ∧ w' = w.alloc (.cells cs 5)) :
    Calls P f args w fun e w' => ∃ a, e = .returned (.slice a (putList n k).length (putList n k).length) ∧ Own w w' a (putList n k) ∧ Below w.heap.size w w' :=
  c.mono fun e w' ⟨he, hw⟩ => by
    subst hw
    subst hk
    rw [putList_yes h1 h2 h3 h4, Int.toNat_natCast, bytesOf_length]
    exact ⟨_, he, fun _ => ⟨rfl, by rw [← hcs]; exact Has.new _ _ _⟩, (Below.refl _ _).alloc (Nat.le_refl _) _⟩
theorem bytesOf_1 (n : Int) (h0 : 0 ≤ n) (h : n < 256) : bytesOf n 1 = [n] := by
  simp [bytesOf, List.range_succ]; omega
theorem bytesOf_2 (n : Int) (h0 : 0 ≤ n) (h : n < 65536) : bytesOf n 2 = [n % 256, n / 256] := by
  simp [bytesOf, List.range_succ]; omega
theorem bytesOf_3 (n : Int) (h0 : 0 ≤ n) (h : n < 16777216) : bytesOf n 3 = [n % 256, n / 256 % 256, n / 65536] := by
  simp [bytesOf, List.range_succ]; omega
theorem bytesOf_4 (n : Int) (h0 : 0 ≤ n) (h : n < 4294967296) : bytesOf n 4 = [n % 256, n / 256 % 256, n / 65536 % 256, n / 16777216] := by
  simp [bytesOf, List.range_succ]; omega
theorem putNumber_any (n k : Int) (w : World) :
    Calls Tryz.prog 97 #[.int .i64 n, .int .i64 k] w fun e w' => ∃ a, e = .returned (.slice a (putList n k).length (putList n k).length) ∧ Own w w' a (putList n k) ∧ Below w.heap.size w w' := by
  by_cases hk : k < 1 ∨ 4 < k
  · exact put_none (by omega) (putNumber_bad n k hk w)
  by_cases hn : n < 0
  · exact put_none (by omega) (putNumber_neg n k (by omega) (by omega) hn w)
  have hc : k = 1 ∨ k = 2 ∨ k = 3 ∨ k = 4 := by omega
  rcases hc with rfl | rfl | rfl | rfl
  · by_cases hb : 256 ≤ n
    · exact put_none (.inr (.inr (.inr hb))) (putNumber_big1 n hb w)
    · exact put_some (m := 1) (by rfl) (by omega) (by omega) (by omega) (by show n < 256; omega) (by rw [bytesOf_1 n (by omega) (by omega)]; rfl) (putNumber_1 n (by omega) (by omega) w)
  · by_cases hb : 65536 ≤ n
    · exact put_none (.inr (.inr (.inr hb))) (putNumber_big2 n hb w)
    · exact put_some (m := 2) (by rfl) (by omega) (by omega) (by omega) (by show n < 65536; omega) (by rw [bytesOf_2 n (by omega) (by omega)]; rfl) (putNumber_2 n (by omega) (by omega) w)
  · by_cases hb : 16777216 ≤ n
    · exact put_none (.inr (.inr (.inr hb))) (putNumber_big3 n hb w)
    · exact put_some (m := 3) (by rfl) (by omega) (by omega) (by omega) (by show n < 16777216; omega) (by rw [bytesOf_3 n (by omega) (by omega)]; rfl) (putNumber_3 n (by omega) (by omega) w)
  · by_cases hb : 4294967296 ≤ n
    · exact put_none (.inr (.inr (.inr hb))) (putNumber_big4 n hb w)
    · exact put_some (m := 4) (by rfl) (by omega) (by omega) (by omega) (by show n < 4294967296; omega) (by rw [bytesOf_4 n (by omega) (by omega)]; rfl) (putNumber_4 n (by omega) (by omega) w)
open Go.RowKit
theorem bytesOf_succ (n : Int) (k : Nat) : bytesOf n (k + 1) = bytesOf n k ++ [n / 256 ^ k % 256] := by
  simp [bytesOf, List.range_succ]
theorem div_next (n : Int) (k : Nat) : n / 256 ^ k / 256 = n / 256 ^ (k + 1) := by
  rw [Int.ediv_ediv_of_nonneg (Int.le_of_lt (Int.pow_pos (by decide))), Int.pow_succ]
theorem putNumber'_bad (n k : Int) (h : k < 1 ∨ 4 < k) (w : World) :
    Calls Tryz.prog 36 #[.int .i64 n, .int .i64 k] w fun e w' => ∃ a c, e = .returned (.slice a 0 c) ∧ Below w.heap.size w w' := by
  rcases h with h | h
  · go_enter Tryz.func36, Tryz.ntmps36
    go_wp2_with (go_at_call 71; (with_reducible refine (l1In_low _ _ _ h _).mono ?_); rintro e w' ⟨rfl, rfl⟩)
    go_ret
    exact ⟨_, _, rfl, (Below.refl _ _).alloc (Nat.le_refl _) _⟩
  · go_enter Tryz.func36, Tryz.ntmps36
    go_wp2_with (go_at_call 71; (with_reducible refine (l1In_high _ _ _ h _).mono ?_); rintro e w' ⟨rfl, rfl⟩)
    go_ret
    exact ⟨_, _, rfl, (Below.refl _ _).alloc (Nat.le_refl _) _⟩
theorem putNumber'_neg1 (n : Int) (hn : n < 0) (w : World) :
    Calls Tryz.prog 36 #[.int .i64 n, .int .i64 1] w fun e w' => ∃ a c, e = .returned (.slice a 0 c) ∧ Below w.heap.size w w' := by
  go_enter Tryz.func36, Tryz.ntmps36
  go_wp2_with (first | (go_at_call 72; (with_reducible refine (l1Power_1 _).mono ?_); rintro e w' ⟨rfl, rfl⟩) | (go_at_call 71; (with_reducible refine (l1In_yes 1 1 4 (by omega) (by omega) _).mono ?_); rintro e w' ⟨rfl, rfl⟩) | (go_at_call 71; (with_reducible refine (l1In_low n _ _ hn _).mono ?_); rintro e w' ⟨rfl, rfl⟩))
  go_ret
  exact ⟨_, _, rfl, (Below.refl _ _).alloc (Nat.le_refl _) _⟩
theorem putNumber'_big1 (n : Int) (hn : 256 ≤ n) (w : World) :
    Calls Tryz.prog 36 #[.int .i64 n, .int .i64 1] w fun e w' => ∃ a c, e = .returned (.slice a 0 c) ∧ Below w.heap.size w w' := by
  go_enter Tryz.func36, Tryz.ntmps36
  go_wp2_with (first | (go_at_call 72; (with_reducible refine (l1Power_1 _).mono ?_); rintro e w' ⟨rfl, rfl⟩) | (go_at_call 71; (with_reducible refine (l1In_yes 1 1 4 (by omega) (by omega) _).mono ?_); rintro e w' ⟨rfl, rfl⟩) | (go_at_call 71; (with_reducible refine (l1In_high n _ _ (by omega) _).mono ?_); rintro e w' ⟨rfl, rfl⟩))
  go_ret
  exact ⟨_, _, rfl, (Below.refl _ _).alloc (Nat.le_refl _) _⟩
set_option maxHeartbeats 1000000 in
theorem putNumber'_1 (n : Int) (h0 : 0 ≤ n) (hn : n < 256) (w : World) :
    Calls Tryz.prog 36 #[.int .i64 n, .int .i64 1] w fun e w' => ∃ v, e = .returned v ∧ w'.ownsRow w.heap.size 5 1 v 1 ((bytesOf n 1).map (Value.int .u8)) ∧ Below w.heap.size w w' := by
  obtain ⟨i0, hi, hz0, hz1, hz2⟩ := info_parts Tryz.info_u8
  go_enter Tryz.func36, Tryz.ntmps36
  go_wp2_with (first | (go_at_call 72; (with_reducible refine (l1Power_1 _).mono ?_); rintro e w' ⟨rfl, rfl⟩) | (go_at_call 71; (with_reducible refine (l1In_yes 1 1 4 (by omega) (by omega) _).mono ?_); rintro e w' ⟨rfl, rfl⟩) | (go_at_call 71; (with_reducible refine (l1In_yes n _ _ h0 (by omega) _).mono ?_); rintro e w' ⟨rfl, rfl⟩))
  go_loopw [0, 5, 6] (fun m v i wr => ∃ (j : Nat) (x : Int), j ≤ 1 ∧ i = .int .i64 j ∧ m = .int .i64 x ∧ Hid (x = n / 256 ^ j) ∧ 0 ≤ x ∧ x ≤ 4294967296 ∧ wr.ownsRow w.heap.size 5 1 v j ((bytesOf n j).map (Value.int .u8)) ∧ Below w.heap.size w wr)
    (fun _ _ i _ => 1 - (intOf i).toNat)
  case atStart => exact ⟨0, n, by omega, rfl, rfl, hidden (by simp), h0, by omega, World.ownsRow_lit w #[] 0 (Nat.le_refl _) (by unfold maxLen; omega) rfl, (Below.refl _ _).alloc (Nat.le_refl _) _⟩
  case round =>
    obtain ⟨j, x, hj, rfl, rfl, hx, hx0, hxb, hown, hb⟩ := hrel
    by_cases hlt : j < 1
    · have hlt' : (j : Int) < 1 := by omega
      go_wp2_with (at_builtin; refine wpList_append_own _ rfl _ _ 22 rfl w.heap.size 5 i0 (.int .u8 0) 1 1 Tryz.underlying22 hi hz0 hz1 hz2 rfl (by decide) _ _ _ rfl (hown.alloc _) ⟨wr.heap.size, 0, none⟩ 1 1 [.int .u8 (x % 256)] rfl rfl ?c1 ?c2 ?c3 ?c4 ?c5 ?_)
      case c1 =>
        intro t u ht
        match t, ht with
        | 0, ht => simp at ht; subst ht; simp [Addr.add]
      case c2 => intro u hu; simp at hu; subst hu; rfl
      case c3 => unfold maxLen; omega
      case c4 => omega
      case c5 => have := hb.size; simp; omega
      · intro v' w1 hown' hgrow _
        have hown2 : w1.ownsRow w.heap.size 5 1 v' (j + 1) ((bytesOf n (j + 1)).map (Value.int .u8)) := by
          rw [bytesOf_succ, ← hx.out]; simpa using hown'
        have hb2 : Below w.heap.size w w1 := (hb.alloc hb.size _).grown hgrow (by have := hb.size; simp; omega) (fun q hq => (hown.lt q hq).1)
        have HX : Hid (x / 256 = n / 256 ^ (j + 1)) := by rw [← div_next, ← hx.out]; rfl
        clear hown' hgrow hown hx
        go_wp2
        go_roundw
        case rel => exact ⟨j + 1, _, by omega, by go_num, rfl, HX, by omega, by omega, hown2, hb2⟩
        case measure => simp [intOf]; omega
    · have hj' : j = 1 := by omega
      have hlt' : ¬ (j : Int) < 1 := by omega
      rw [hj'] at hown
      clear hx hj'
      go_wp2
      go_ret
      exact ⟨_, rfl, hown, hb⟩
theorem putNumber'_neg2 (n : Int) (hn : n < 0) (w : World) :
    Calls Tryz.prog 36 #[.int .i64 n, .int .i64 2] w fun e w' => ∃ a c, e = .returned (.slice a 0 c) ∧ Below w.heap.size w w' := by
  go_enter Tryz.func36, Tryz.ntmps36
  go_wp2_with (first | (go_at_call 72; (with_reducible refine (l1Power_2 _).mono ?_); rintro e w' ⟨rfl, rfl⟩) | (go_at_call 71; (with_reducible refine (l1In_yes 2 1 4 (by omega) (by omega) _).mono ?_); rintro e w' ⟨rfl, rfl⟩) | (go_at_call 71; (with_reducible refine (l1In_low n _ _ hn _).mono ?_); rintro e w' ⟨rfl, rfl⟩))
  go_ret
  exact ⟨_, _, rfl, (Below.refl _ _).alloc (Nat.le_refl _) _⟩
theorem putNumber'_big2 (n : Int) (hn : 65536 ≤ n) (w : World) :
    Calls Tryz.prog 36 #[.int .i64 n, .int .i64 2] w fun e w' => ∃ a c, e = .returned (.slice a 0 c) ∧ Below w.heap.size w w' := by
  go_enter Tryz.func36, Tryz.ntmps36
  go_wp2_with (first | (go_at_call 72; (with_reducible refine (l1Power_2 _).mono ?_); rintro e w' ⟨rfl, rfl⟩) | (go_at_call 71; (with_reducible refine (l1In_yes 2 1 4 (by omega) (by omega) _).mono ?_); rintro e w' ⟨rfl, rfl⟩) | (go_at_call 71; (with_reducible refine (l1In_high n _ _ (by omega) _).mono ?_); rintro e w' ⟨rfl, rfl⟩))
  go_ret
  exact ⟨_, _, rfl, (Below.refl _ _).alloc (Nat.le_refl _) _⟩
set_option maxHeartbeats 1000000 in
theorem putNumber'_2 (n : Int) (h0 : 0 ≤ n) (hn : n < 65536) (w : World) :
    Calls Tryz.prog 36 #[.int .i64 n, .int .i64 2] w fun e w' => ∃ v, e = .returned v ∧ w'.ownsRow w.heap.size 5 1 v 2 ((bytesOf n 2).map (Value.int .u8)) ∧ Below w.heap.size w w' := by
  obtain ⟨i0, hi, hz0, hz1, hz2⟩ := info_parts Tryz.info_u8
  go_enter Tryz.func36, Tryz.ntmps36
  go_wp2_with (first | (go_at_call 72; (with_reducible refine (l1Power_2 _).mono ?_); rintro e w' ⟨rfl, rfl⟩) | (go_at_call 71; (with_reducible refine (l1In_yes 2 1 4 (by omega) (by omega) _).mono ?_); rintro e w' ⟨rfl, rfl⟩) | (go_at_call 71; (with_reducible refine (l1In_yes n _ _ h0 (by omega) _).mono ?_); rintro e w' ⟨rfl, rfl⟩))
  go_loopw [0, 5, 6] (fun m v i wr => ∃ (j : Nat) (x : Int), j ≤ 2 ∧ i = .int .i64 j ∧ m = .int .i64 x ∧ Hid (x = n / 256 ^ j) ∧ 0 ≤ x ∧ x ≤ 4294967296 ∧ wr.ownsRow w.heap.size 5 1 v j ((bytesOf n j).map (Value.int .u8)) ∧ Below w.heap.size w wr)
    (fun _ _ i _ => 2 - (intOf i).toNat)
  case atStart => exact ⟨0, n, by omega, rfl, rfl, hidden (by simp), h0, by omega, World.ownsRow_lit w #[] 0 (Nat.le_refl _) (by unfold maxLen; omega) rfl, (Below.refl _ _).alloc (Nat.le_refl _) _⟩
  case round =>
    obtain ⟨j, x, hj, rfl, rfl, hx, hx0, hxb, hown, hb⟩ := hrel
    by_cases hlt : j < 2
    · have hlt' : (j : Int) < 2 := by omega
      go_wp2_with (at_builtin; refine wpList_append_own _ rfl _ _ 22 rfl w.heap.size 5 i0 (.int .u8 0) 1 1 Tryz.underlying22 hi hz0 hz1 hz2 rfl (by decide) _ _ _ rfl (hown.alloc _) ⟨wr.heap.size, 0, none⟩ 1 1 [.int .u8 (x % 256)] rfl rfl ?c1 ?c2 ?c3 ?c4 ?c5 ?_)
      case c1 =>
        intro t u ht
        match t, ht with
        | 0, ht => simp at ht; subst ht; simp [Addr.add]
      case c2 => intro u hu; simp at hu; subst hu; rfl
      case c3 => unfold maxLen; omega
      case c4 => omega
      case c5 => have := hb.size; simp; omega
      · intro v' w1 hown' hgrow _
        have hown2 : w1.ownsRow w.heap.size 5 1 v' (j + 1) ((bytesOf n (j + 1)).map (Value.int .u8)) := by
          rw [bytesOf_succ, ← hx.out]; simpa using hown'
        have hb2 : Below w.heap.size w w1 := (hb.alloc hb.size _).grown hgrow (by have := hb.size; simp; omega) (fun q hq => (hown.lt q hq).1)
        have HX : Hid (x / 256 = n / 256 ^ (j + 1)) := by rw [← div_next, ← hx.out]; rfl
        clear hown' hgrow hown hx
        go_wp2
        go_roundw
        case rel => exact ⟨j + 1, _, by omega, by go_num, rfl, HX, by omega, by omega, hown2, hb2⟩
        case measure => simp [intOf]; omega
    · have hj' : j = 2 := by omega
      have hlt' : ¬ (j : Int) < 2 := by omega
      rw [hj'] at hown
      clear hx hj'
      go_wp2
      go_ret
      exact ⟨_, rfl, hown, hb⟩
theorem putNumber'_neg3 (n : Int) (hn : n < 0) (w : World) :
    Calls Tryz.prog 36 #[.int .i64 n, .int .i64 3] w fun e w' => ∃ a c, e = .returned (.slice a 0 c) ∧ Below w.heap.size w w' := by
  go_enter Tryz.func36, Tryz.ntmps36
  go_wp2_with (first | (go_at_call 72; (with_reducible refine (l1Power_3 _).mono ?_); rintro e w' ⟨rfl, rfl⟩) | (go_at_call 71; (with_reducible refine (l1In_yes 3 1 4 (by omega) (by omega) _).mono ?_); rintro e w' ⟨rfl, rfl⟩) | (go_at_call 71; (with_reducible refine (l1In_low n _ _ hn _).mono ?_); rintro e w' ⟨rfl, rfl⟩))
  go_ret
  exact ⟨_, _, rfl, (Below.refl _ _).alloc (Nat.le_refl _) _⟩
theorem putNumber'_big3 (n : Int) (hn : 16777216 ≤ n) (w : World) :
    Calls Tryz.prog 36 #[.int .i64 n, .int .i64 3] w fun e w' => ∃ a c, e = .returned (.slice a 0 c) ∧ Below w.heap.size w w' := by
  go_enter Tryz.func36, Tryz.ntmps36
  go_wp2_with (first | (go_at_call 72; (with_reducible refine (l1Power_3 _).mono ?_); rintro e w' ⟨rfl, rfl⟩) | (go_at_call 71; (with_reducible refine (l1In_yes 3 1 4 (by omega) (by omega) _).mono ?_); rintro e w' ⟨rfl, rfl⟩) | (go_at_call 71; (with_reducible refine (l1In_high n _ _ (by omega) _).mono ?_); rintro e w' ⟨rfl, rfl⟩))
  go_ret
  exact ⟨_, _, rfl, (Below.refl _ _).alloc (Nat.le_refl _) _⟩
set_option maxHeartbeats 1000000 in
theorem putNumber'_3 (n : Int) (h0 : 0 ≤ n) (hn : n < 16777216) (w : World) :
    Calls Tryz.prog 36 #[.int .i64 n, .int .i64 3] w fun e w' => ∃ v, e = .returned v ∧ w'.ownsRow w.heap.size 5 1 v 3 ((bytesOf n 3).map (Value.int .u8)) ∧ Below w.heap.size w w' := by
  obtain ⟨i0, hi, hz0, hz1, hz2⟩ := info_parts Tryz.info_u8
  go_enter Tryz.func36, Tryz.ntmps36
  go_wp2_with (first | (go_at_call 72; (with_reducible refine (l1Power_3 _).mono ?_); rintro e w' ⟨rfl, rfl⟩) | (go_at_call 71; (with_reducible refine (l1In_yes 3 1 4 (by omega) (by omega) _).mono ?_); rintro e w' ⟨rfl, rfl⟩) | (go_at_call 71; (with_reducible refine (l1In_yes n _ _ h0 (by omega) _).mono ?_); rintro e w' ⟨rfl, rfl⟩))
  go_loopw [0, 5, 6] (fun m v i wr => ∃ (j : Nat) (x : Int), j ≤ 3 ∧ i = .int .i64 j ∧ m = .int .i64 x ∧ Hid (x = n / 256 ^ j) ∧ 0 ≤ x ∧ x ≤ 4294967296 ∧ wr.ownsRow w.heap.size 5 1 v j ((bytesOf n j).map (Value.int .u8)) ∧ Below w.heap.size w wr)
    (fun _ _ i _ => 3 - (intOf i).toNat)
  case atStart => exact ⟨0, n, by omega, rfl, rfl, hidden (by simp), h0, by omega, World.ownsRow_lit w #[] 0 (Nat.le_refl _) (by unfold maxLen; omega) rfl, (Below.refl _ _).alloc (Nat.le_refl _) _⟩
  case round =>
    obtain ⟨j, x, hj, rfl, rfl, hx, hx0, hxb, hown, hb⟩ := hrel
    by_cases hlt : j < 3
    · have hlt' : (j : Int) < 3 := by omega
      go_wp2_with (at_builtin; refine wpList_append_own _ rfl _ _ 22 rfl w.heap.size 5 i0 (.int .u8 0) 1 1 Tryz.underlying22 hi hz0 hz1 hz2 rfl (by decide) _ _ _ rfl (hown.alloc _) ⟨wr.heap.size, 0, none⟩ 1 1 [.int .u8 (x % 256)] rfl rfl ?c1 ?c2 ?c3 ?c4 ?c5 ?_)
      case c1 =>
        intro t u ht
        match t, ht with
        | 0, ht => simp at ht; subst ht; simp [Addr.add]
      case c2 => intro u hu; simp at hu; subst hu; rfl
      case c3 => unfold maxLen; omega
      case c4 => omega
      case c5 => have := hb.size; simp; omega
      · intro v' w1 hown' hgrow _
        have hown2 : w1.ownsRow w.heap.size 5 1 v' (j + 1) ((bytesOf n (j + 1)).map (Value.int .u8)) := by
          rw [bytesOf_succ, ← hx.out]; simpa using hown'
        have hb2 : Below w.heap.size w w1 := (hb.alloc hb.size _).grown hgrow (by have := hb.size; simp; omega) (fun q hq => (hown.lt q hq).1)
        have HX : Hid (x / 256 = n / 256 ^ (j + 1)) := by rw [← div_next, ← hx.out]; rfl
        clear hown' hgrow hown hx
        go_wp2
        go_roundw
        case rel => exact ⟨j + 1, _, by omega, by go_num, rfl, HX, by omega, by omega, hown2, hb2⟩
        case measure => simp [intOf]; omega
    · have hj' : j = 3 := by omega
      have hlt' : ¬ (j : Int) < 3 := by omega
      rw [hj'] at hown
      clear hx hj'
      go_wp2
      go_ret
      exact ⟨_, rfl, hown, hb⟩
theorem putNumber'_neg4 (n : Int) (hn : n < 0) (w : World) :
    Calls Tryz.prog 36 #[.int .i64 n, .int .i64 4] w fun e w' => ∃ a c, e = .returned (.slice a 0 c) ∧ Below w.heap.size w w' := by
  go_enter Tryz.func36, Tryz.ntmps36
  go_wp2_with (first | (go_at_call 72; (with_reducible refine (l1Power_4 _).mono ?_); rintro e w' ⟨rfl, rfl⟩) | (go_at_call 71; (with_reducible refine (l1In_yes 4 1 4 (by omega) (by omega) _).mono ?_); rintro e w' ⟨rfl, rfl⟩) | (go_at_call 71; (with_reducible refine (l1In_low n _ _ hn _).mono ?_); rintro e w' ⟨rfl, rfl⟩))
  go_ret
  exact ⟨_, _, rfl, (Below.refl _ _).alloc (Nat.le_refl _) _⟩
theorem putNumber'_big4 (n : Int) (hn : 4294967296 ≤ n) (w : World) :
    Calls Tryz.prog 36 #[.int .i64 n, .int .i64 4] w fun e w' => ∃ a c, e = .returned (.slice a 0 c) ∧ Below w.heap.size w w' := by
  go_enter Tryz.func36, Tryz.ntmps36
  go_wp2_with (first | (go_at_call 72; (with_reducible refine (l1Power_4 _).mono ?_); rintro e w' ⟨rfl, rfl⟩) | (go_at_call 71; (with_reducible refine (l1In_yes 4 1 4 (by omega) (by omega) _).mono ?_); rintro e w' ⟨rfl, rfl⟩) | (go_at_call 71; (with_reducible refine (l1In_high n _ _ (by omega) _).mono ?_); rintro e w' ⟨rfl, rfl⟩))
  go_ret
  exact ⟨_, _, rfl, (Below.refl _ _).alloc (Nat.le_refl _) _⟩
set_option maxHeartbeats 1000000 in
theorem putNumber'_4 (n : Int) (h0 : 0 ≤ n) (hn : n < 4294967296) (w : World) :
    Calls Tryz.prog 36 #[.int .i64 n, .int .i64 4] w fun e w' => ∃ v, e = .returned v ∧ w'.ownsRow w.heap.size 5 1 v 4 ((bytesOf n 4).map (Value.int .u8)) ∧ Below w.heap.size w w' := by
  obtain ⟨i0, hi, hz0, hz1, hz2⟩ := info_parts Tryz.info_u8
  go_enter Tryz.func36, Tryz.ntmps36
  go_wp2_with (first | (go_at_call 72; (with_reducible refine (l1Power_4 _).mono ?_); rintro e w' ⟨rfl, rfl⟩) | (go_at_call 71; (with_reducible refine (l1In_yes 4 1 4 (by omega) (by omega) _).mono ?_); rintro e w' ⟨rfl, rfl⟩) | (go_at_call 71; (with_reducible refine (l1In_yes n _ _ h0 (by omega) _).mono ?_); rintro e w' ⟨rfl, rfl⟩))
  go_loopw [0, 5, 6] (fun m v i wr => ∃ (j : Nat) (x : Int), j ≤ 4 ∧ i = .int .i64 j ∧ m = .int .i64 x ∧ Hid (x = n / 256 ^ j) ∧ 0 ≤ x ∧ x ≤ 4294967296 ∧ wr.ownsRow w.heap.size 5 1 v j ((bytesOf n j).map (Value.int .u8)) ∧ Below w.heap.size w wr)
    (fun _ _ i _ => 4 - (intOf i).toNat)
  case atStart => exact ⟨0, n, by omega, rfl, rfl, hidden (by simp), h0, by omega, World.ownsRow_lit w #[] 0 (Nat.le_refl _) (by unfold maxLen; omega) rfl, (Below.refl _ _).alloc (Nat.le_refl _) _⟩
  case round =>
    obtain ⟨j, x, hj, rfl, rfl, hx, hx0, hxb, hown, hb⟩ := hrel
    by_cases hlt : j < 4
    · have hlt' : (j : Int) < 4 := by omega
      go_wp2_with (at_builtin; refine wpList_append_own _ rfl _ _ 22 rfl w.heap.size 5 i0 (.int .u8 0) 1 1 Tryz.underlying22 hi hz0 hz1 hz2 rfl (by decide) _ _ _ rfl (hown.alloc _) ⟨wr.heap.size, 0, none⟩ 1 1 [.int .u8 (x % 256)] rfl rfl ?c1 ?c2 ?c3 ?c4 ?c5 ?_)
      case c1 =>
        intro t u ht
        match t, ht with
        | 0, ht => simp at ht; subst ht; simp [Addr.add]
      case c2 => intro u hu; simp at hu; subst hu; rfl
      case c3 => unfold maxLen; omega
      case c4 => omega
      case c5 => have := hb.size; simp; omega
      · intro v' w1 hown' hgrow _
        have hown2 : w1.ownsRow w.heap.size 5 1 v' (j + 1) ((bytesOf n (j + 1)).map (Value.int .u8)) := by
          rw [bytesOf_succ, ← hx.out]; simpa using hown'
        have hb2 : Below w.heap.size w w1 := (hb.alloc hb.size _).grown hgrow (by have := hb.size; simp; omega) (fun q hq => (hown.lt q hq).1)
        have HX : Hid (x / 256 = n / 256 ^ (j + 1)) := by rw [← div_next, ← hx.out]; rfl
        clear hown' hgrow hown hx
        go_wp2
        go_roundw
        case rel => exact ⟨j + 1, _, by omega, by go_num, rfl, HX, by omega, by omega, hown2, hb2⟩
        case measure => simp [intOf]; omega
    · have hj' : j = 4 := by omega
      have hlt' : ¬ (j : Int) < 4 := by omega
      rw [hj'] at hown
      clear hx hj'
      go_wp2
      go_ret
      exact ⟨_, rfl, hown, hb⟩
theorem putNumber'_any (n k : Int) (w : World) :
    Calls Tryz.prog 36 #[.int .i64 n, .int .i64 k] w fun e w' => ∃ a c, e = .returned (.slice a (putList n k).length c) ∧ Ints w' .u8 w'.heap.size a (putList n k) ∧ Below w.heap.size w w' := by
  have none_ : (k < 1 ∨ 4 < k ∨ n < 0 ∨ pw k ≤ n) → (Calls Tryz.prog 36 #[.int .i64 n, .int .i64 k] w fun e w' => ∃ a c, e = .returned (.slice a 0 c) ∧ Below w.heap.size w w') →
      Calls Tryz.prog 36 #[.int .i64 n, .int .i64 k] w fun e w' => ∃ a c, e = .returned (.slice a (putList n k).length c) ∧ Ints w' .u8 w'.heap.size a (putList n k) ∧ Below w.heap.size w w' := fun h c =>
    c.mono fun e w' ⟨a, c, he, hb⟩ => by
      rw [putList_no h]
      exact ⟨a, c, he, ⟨by simp, by simp⟩, hb⟩
  by_cases hk : k < 1 ∨ 4 < k
  · exact none_ (by omega) (putNumber'_bad n k hk w)
  have hc : k = 1 ∨ k = 2 ∨ k = 3 ∨ k = 4 := by omega
  rcases hc with rfl | rfl | rfl | rfl
  · by_cases hn : n < 0
    · exact none_ (by omega) (putNumber'_neg1 n hn w)
    by_cases hb : 256 ≤ n
    · exact none_ (.inr (.inr (.inr hb))) (putNumber'_big1 n hb w)
    refine (putNumber'_1 n (by omega) (by omega) w).mono fun e w' ⟨v, he, hown, hbl⟩ => ?_
    obtain ⟨a, c, hv, hi⟩ := ints_of_own (by simp [bytesOf]) hown (bytesOf_wf _ _)
    rw [putList_yes (by omega) (by omega) (by omega) (by show n < 256; omega)]
    exact ⟨a, c, by rw [he, hv]; rfl, hi, hbl⟩
  · by_cases hn : n < 0
    · exact none_ (by omega) (putNumber'_neg2 n hn w)
    by_cases hb : 65536 ≤ n
    · exact none_ (.inr (.inr (.inr hb))) (putNumber'_big2 n hb w)
    refine (putNumber'_2 n (by omega) (by omega) w).mono fun e w' ⟨v, he, hown, hbl⟩ => ?_
    obtain ⟨a, c, hv, hi⟩ := ints_of_own (by simp [bytesOf]) hown (bytesOf_wf _ _)
    rw [putList_yes (by omega) (by omega) (by omega) (by show n < 65536; omega)]
    exact ⟨a, c, by rw [he, hv]; rfl, hi, hbl⟩
  · by_cases hn : n < 0
    · exact none_ (by omega) (putNumber'_neg3 n hn w)
    by_cases hb : 16777216 ≤ n
    · exact none_ (.inr (.inr (.inr hb))) (putNumber'_big3 n hb w)
    refine (putNumber'_3 n (by omega) (by omega) w).mono fun e w' ⟨v, he, hown, hbl⟩ => ?_
    obtain ⟨a, c, hv, hi⟩ := ints_of_own (by simp [bytesOf]) hown (bytesOf_wf _ _)
    rw [putList_yes (by omega) (by omega) (by omega) (by show n < 16777216; omega)]
    exact ⟨a, c, by rw [he, hv]; rfl, hi, hbl⟩
  · by_cases hn : n < 0
    · exact none_ (by omega) (putNumber'_neg4 n hn w)
    by_cases hb : 4294967296 ≤ n
    · exact none_ (.inr (.inr (.inr hb))) (putNumber'_big4 n hb w)
    refine (putNumber'_4 n (by omega) (by omega) w).mono fun e w' ⟨v, he, hown, hbl⟩ => ?_
    obtain ⟨a, c, hv, hi⟩ := ints_of_own (by simp [bytesOf]) hown (bytesOf_wf _ _)
    rw [putList_yes (by omega) (by omega) (by omega) (by show n < 4294967296; omega)]
    exact ⟨a, c, by rw [he, hv]; rfl, hi, hbl⟩

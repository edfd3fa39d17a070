/-
  Contracts of impl.PutNumber and spec.PutNumber: the bytes that each returns, in memory of its own. Contract of spec.PutNumber: the bytes that it returns, in memory of its own.
-/
import Derived.WalkSpells
import Derived.WalkLawsBesides
import Derived.Handy
import Derived.Test.YtjafekjcncmjjaaNum
import Derived.Test.YtjafekjcncmjjaaBase
/- Contracts of impl.PutNumber and spec.PutNumber: the bytes that each returns, in memory of its own. -/
namespace Go.Proofs.Ytjafekjcncmjjaa
open Go.RowKit

/-- The bytes of a number, the lowest one first. -/
def bytesOf (n : Int) (k : Nat) : List Int := (List.range k).map fun j => n / 256 ^ j % 256
theorem bytesOf_length (n : Int) (k : Nat) : (bytesOf n k).length = k := by simp [bytesOf]
theorem bytesOf_wf (n : Int) (k : Nat) : ∀ x ∈ bytesOf n k, (Lit.int .u8 x).wf = true := by
  intro x hx
  simp only [bytesOf, List.mem_map] at hx
  obtain ⟨j, _, rfl⟩ := hx
  exact wf_u8.mpr ⟨Int.emod_nonneg _ (by decide), Int.emod_lt_of_pos _ (by decide)⟩

theorem putNumber_1 (n : Int) (h0 : 0 ≤ n) (hn : n < 256) (w : World) :
    Calls Try.prog 69 #[.int .i64 n, .int .i64 1] w fun e w' => e = .returned (.slice (some ⟨w.heap.size, 0, none⟩) 1 1) ∧ w' = w.alloc (.cells #[.int .u8 (n)] 5) := by
  have hmk : ∀ W : World, (Instr.makeSlice 22 (.int .i64 1) (.int .i64 1)).run Try.prog W = .ok (.slice (some ⟨W.heap.size, 0, none⟩) 1 1) (W.alloc (.cells #[.int .u8 0] 5)) := fun _ => by kernel_rfl
  go_enter Try.func69, Try.ntmps69
  go_wp2_with (go_at_call 86; (with_reducible refine (fitsWide_1 _ h0 hn _).mono ?_); rintro e w' ⟨rfl, rfl⟩)
  go_rounds 2
  go_ret
  exact ⟨rfl, rfl⟩

theorem putNumber_2 (n : Int) (h0 : 0 ≤ n) (hn : n < 65536) (w : World) :
    Calls Try.prog 69 #[.int .i64 n, .int .i64 2] w fun e w' => e = .returned (.slice (some ⟨w.heap.size, 0, none⟩) 2 2) ∧ w' = w.alloc (.cells #[.int .u8 (n % 256), .int .u8 (n / 256)] 5) := by
  have hmk : ∀ W : World, (Instr.makeSlice 22 (.int .i64 2) (.int .i64 2)).run Try.prog W = .ok (.slice (some ⟨W.heap.size, 0, none⟩) 2 2) (W.alloc (.cells #[.int .u8 0, .int .u8 0] 5)) := fun _ => by kernel_rfl
  go_enter Try.func69, Try.ntmps69
  go_wp2_with (go_at_call 86; (with_reducible refine (fitsWide_2 _ h0 hn _).mono ?_); rintro e w' ⟨rfl, rfl⟩)
  go_rounds 3
  go_ret
  exact ⟨rfl, rfl⟩

theorem putNumber_3 (n : Int) (h0 : 0 ≤ n) (hn : n < 16777216) (w : World) :
    Calls Try.prog 69 #[.int .i64 n, .int .i64 3] w fun e w' => e = .returned (.slice (some ⟨w.heap.size, 0, none⟩) 3 3) ∧ w' = w.alloc (.cells #[.int .u8 (n % 256), .int .u8 (n / 256 % 256), .int .u8 (n / 65536)] 5) := by
  have hmk : ∀ W : World, (Instr.makeSlice 22 (.int .i64 3) (.int .i64 3)).run Try.prog W = .ok (.slice (some ⟨W.heap.size, 0, none⟩) 3 3) (W.alloc (.cells #[.int .u8 0, .int .u8 0, .int .u8 0] 5)) := fun _ => by kernel_rfl
  go_enter Try.func69, Try.ntmps69
  go_wp2_with (go_at_call 86; (with_reducible refine (fitsWide_3 _ h0 hn _).mono ?_); rintro e w' ⟨rfl, rfl⟩)
  go_rounds 4
  go_ret
  exact ⟨rfl, rfl⟩

theorem putNumber_4 (n : Int) (h0 : 0 ≤ n) (hn : n < 4294967296) (w : World) :
    Calls Try.prog 69 #[.int .i64 n, .int .i64 4] w fun e w' => e = .returned (.slice (some ⟨w.heap.size, 0, none⟩) 4 4) ∧ w' = w.alloc (.cells #[.int .u8 (n % 256), .int .u8 (n / 256 % 256), .int .u8 (n / 65536 % 256), .int .u8 (n / 16777216)] 5) := by
  have hmk : ∀ W : World, (Instr.makeSlice 22 (.int .i64 4) (.int .i64 4)).run Try.prog W = .ok (.slice (some ⟨W.heap.size, 0, none⟩) 4 4) (W.alloc (.cells #[.int .u8 0, .int .u8 0, .int .u8 0, .int .u8 0] 5)) := fun _ => by kernel_rfl
  go_enter Try.func69, Try.ntmps69
  go_wp2_with (go_at_call 86; (with_reducible refine (fitsWide_4 _ h0 hn _).mono ?_); rintro e w' ⟨rfl, rfl⟩)
  go_rounds 5
  go_ret
  exact ⟨rfl, rfl⟩

theorem putNumber_bad (n k : Int) (h : k < 1 ∨ 4 < k) (w : World) :
    Calls Try.prog 69 #[.int .i64 n, .int .i64 k] w fun e w' => e = .returned (.slice none 0 0) ∧ w = w' := by
  go_enter Try.func69, Try.ntmps69
  go_wp2_with (first | (go_at_call 86; (with_reducible refine (fitsWide_bad _ _ h _).mono ?_); rintro e w' ⟨rfl, rfl⟩))
  go_ret
  exact ⟨rfl, rfl⟩

theorem putNumber_neg (n k : Int) (h : 1 ≤ k) (h' : k ≤ 4) (hn : n < 0) (w : World) :
    Calls Try.prog 69 #[.int .i64 n, .int .i64 k] w fun e w' => e = .returned (.slice none 0 0) ∧ w = w' := by
  go_enter Try.func69, Try.ntmps69
  go_wp2_with (first | (go_at_call 86; (with_reducible refine (fitsWide_neg _ _ h h' hn _).mono ?_); rintro e w' ⟨rfl, rfl⟩))
  go_ret
  exact ⟨rfl, rfl⟩

theorem putNumber_big1 (n : Int) (hn : 256 ≤ n) (w : World) :
    Calls Try.prog 69 #[.int .i64 n, .int .i64 1] w fun e w' => e = .returned (.slice none 0 0) ∧ w = w' := by
  go_enter Try.func69, Try.ntmps69
  go_wp2_with (first | (go_at_call 86; (with_reducible refine (fitsWide_big1 _ hn _).mono ?_); rintro e w' ⟨rfl, rfl⟩))
  go_ret
  exact ⟨rfl, rfl⟩

theorem putNumber_big2 (n : Int) (hn : 65536 ≤ n) (w : World) :
    Calls Try.prog 69 #[.int .i64 n, .int .i64 2] w fun e w' => e = .returned (.slice none 0 0) ∧ w = w' := by
  go_enter Try.func69, Try.ntmps69
  go_wp2_with (first | (go_at_call 86; (with_reducible refine (fitsWide_big2 _ hn _).mono ?_); rintro e w' ⟨rfl, rfl⟩))
  go_ret
  exact ⟨rfl, rfl⟩

theorem putNumber_big3 (n : Int) (hn : 16777216 ≤ n) (w : World) :
    Calls Try.prog 69 #[.int .i64 n, .int .i64 3] w fun e w' => e = .returned (.slice none 0 0) ∧ w = w' := by
  go_enter Try.func69, Try.ntmps69
  go_wp2_with (first | (go_at_call 86; (with_reducible refine (fitsWide_big3 _ hn _).mono ?_); rintro e w' ⟨rfl, rfl⟩))
  go_ret
  exact ⟨rfl, rfl⟩

theorem putNumber_big4 (n : Int) (hn : 4294967296 ≤ n) (w : World) :
    Calls Try.prog 69 #[.int .i64 n, .int .i64 4] w fun e w' => e = .returned (.slice none 0 0) ∧ w = w' := by
  go_enter Try.func69, Try.ntmps69
  go_wp2_with (first | (go_at_call 86; (with_reducible refine (fitsWide_big4 _ hn _).mono ?_); rintro e w' ⟨rfl, rfl⟩))
  go_ret
  exact ⟨rfl, rfl⟩

/-- What PutNumber answers: no bytes where it has no answer. -/
def putList (n k : Int) : List Int := if 1 ≤ k ∧ k ≤ 4 ∧ 0 ≤ n ∧ n < pw k then bytesOf n k.toNat else []
theorem putList_yes {n k : Int} (h1 : 1 ≤ k) (h2 : k ≤ 4) (h3 : 0 ≤ n) (h4 : n < pw k) : putList n k = bytesOf n k.toNat := by unfold putList; rw [if_pos ⟨h1, h2, h3, h4⟩]
theorem putList_no {n k : Int} (h : k < 1 ∨ 4 < k ∨ n < 0 ∨ pw k ≤ n) : putList n k = [] := by unfold putList; rw [if_neg (by omega)]
theorem putList_wf (n k : Int) : ∀ x ∈ putList n k, (Lit.int .u8 x).wf = true := by
  unfold putList; split
  · exact bytesOf_wf _ _
  · intro x hx; simp at hx
theorem putList_short (n k : Int) : (putList n k).length ≤ 4 := by
  unfold putList; split
  · rw [bytesOf_length]; omega
  · simp
/-- The slice at 'a' holds these bytes in the first new block, alone. -/
def Own (w w' : World) (a : Option Addr) (l : List Int) : Prop :=
  0 < l.length → a = some ⟨w.heap.size, 0, none⟩ ∧ Has w' w.heap.size 5 (l.map (Value.int .u8)).toArray
theorem Own.ints {w w' : World} {a : Option Addr} {n k : Int} (h : Own w w' a (putList n k)) : Ints w' .u8 w'.heap.size a (putList n k) :=
  ⟨putList_wf n k, fun hn => by
    obtain ⟨rfl, hh⟩ := h hn
    exact (Ints.ofHas hh rfl (putList_wf n k) hh.lt).2 hn⟩
theorem put_none {P : Program} {f : FuncId} {args : Array Value} {w : World} {n k : Int} (h : k < 1 ∨ 4 < k ∨ n < 0 ∨ pw k ≤ n) (c : Calls P f args w fun e w' => e = .returned (.slice none 0 0) ∧ w = w') :
    Calls P f args w fun e w' => ∃ a, e = .returned (.slice a (putList n k).length (putList n k).length) ∧ Own w w' a (putList n k) ∧ Below w.heap.size w w' :=
  c.mono fun e w' ⟨he, hw⟩ => by
    subst hw
    rw [putList_no h]
    exact ⟨none, he, fun h => by simp at h, Below.refl _ _⟩
theorem put_some {P : Program} {f : FuncId} {args : Array Value} {w : World} {n k : Int} {m : Nat} {cs : Array Value} (hk : k = m) (h1 : 1 ≤ k) (h2 : k ≤ 4) (h3 : 0 ≤ n) (h4 : n < pw k) (hcs : cs = ((bytesOf n m).map (Value.int .u8)).toArray)
    (c : Calls P f args w fun e w' => e = .returned (.slice (some ⟨w.heap.size, 0, none⟩) m m) ∧ w' = w.alloc (.cells cs 5)) :
    Calls P f args w fun e w' => ∃ a, e = .returned (.slice a (putList n k).length (putList n k).length) ∧ Own w w' a (putList n k) ∧ Below w.heap.size w w' :=
  c.mono fun e w' ⟨he, hw⟩ => by
    subst hw
    subst hk
    rw [putList_yes h1 h2 h3 h4, Int.toNat_natCast, bytesOf_length]
    exact ⟨_, he, fun _ => ⟨rfl, by rw [← hcs]; exact Has.new _ _ _⟩, (Below.refl _ _).alloc (Nat.le_refl _) _⟩
theorem bytesOf_1 (n : Int) (h0 : 0 ≤ n) (h : n < 256) : bytesOf n 1 = [n] := by
  simp [bytesOf, List.range_succ]; omega
theorem bytesOf_2 (n : Int) (h0 : 0 ≤ n) (h : n < 65536) : bytesOf n 2 = [n % 256, n / 256] := by
  simp [bytesOf, List.range_succ]; omega
theorem bytesOf_3 (n : Int) (h0 : 0 ≤ n) (h : n < 16777216) : bytesOf n 3 = [n % 256, n / 256 % 256, n / 65536] := by
  simp [bytesOf, List.range_succ]; omega
theorem bytesOf_4 (n : Int) (h0 : 0 ≤ n) (h : n < 4294967296) : bytesOf n 4 = [n % 256, n / 256 % 256, n / 65536 % 256, n / 16777216] := by
  simp [bytesOf, List.range_succ]; omega

theorem putNumber_any (n k : Int) (w : World) :
    Calls Try.prog 69 #[.int .i64 n, .int .i64 k] w fun e w' => ∃ a, e = .returned (.slice a (putList n k).length (putList n k).length) ∧ Own w w' a (putList n k) ∧ Below w.heap.size w w' := by
  by_cases hk : k < 1 ∨ 4 < k
  · exact put_none (by omega) (putNumber_bad n k hk w)
  by_cases hn : n < 0
  · exact put_none (by omega) (putNumber_neg n k (by omega) (by omega) hn w)
  have hc : k = 1 ∨ k = 2 ∨ k = 3 ∨ k = 4 := by omega
  rcases hc with rfl | rfl | rfl | rfl
  · by_cases hb : 256 ≤ n
    · exact put_none (.inr (.inr (.inr hb))) (putNumber_big1 n hb w)
    · exact put_some (m := 1) (by rfl) (by omega) (by omega) (by omega) (by show n < 256; omega) (by rw [bytesOf_1 n (by omega) (by omega)]; rfl) (putNumber_1 n (by omega) (by omega) w)
  · by_cases hb : 65536 ≤ n
    · exact put_none (.inr (.inr (.inr hb))) (putNumber_big2 n hb w)
    · exact put_some (m := 2) (by rfl) (by omega) (by omega) (by omega) (by show n < 65536; omega) (by rw [bytesOf_2 n (by omega) (by omega)]; rfl) (putNumber_2 n (by omega) (by omega) w)
  · by_cases hb : 16777216 ≤ n
    · exact put_none (.inr (.inr (.inr hb))) (putNumber_big3 n hb w)
    · exact put_some (m := 3) (by rfl) (by omega) (by omega) (by omega) (by show n < 16777216; omega) (by rw [bytesOf_3 n (by omega) (by omega)]; rfl) (putNumber_3 n (by omega) (by omega) w)
  · by_cases hb : 4294967296 ≤ n
    · exact put_none (.inr (.inr (.inr hb))) (putNumber_big4 n hb w)
    · exact put_some (m := 4) (by rfl) (by omega) (by omega) (by omega) (by show n < 4294967296; omega) (by rw [bytesOf_4 n (by omega) (by omega)]; rfl) (putNumber_4 n (by omega) (by omega) w)

end Go.Proofs.Ytjafekjcncmjjaa
/- Contract of spec.PutNumber: the bytes that it returns, in memory of its own. -/
namespace Go.Proofs.Ytjafekjcncmjjaa
open Go.RowKit

theorem bytesOf_succ (n : Int) (k : Nat) : bytesOf n (k + 1) = bytesOf n k ++ [n / 256 ^ k % 256] := by
  simp [bytesOf, List.range_succ]
theorem div_next (n : Int) (k : Nat) : n / 256 ^ k / 256 = n / 256 ^ (k + 1) := by
  rw [Int.ediv_ediv_of_nonneg (Int.le_of_lt (Int.pow_pos (by decide))), Int.pow_succ]

















































































































































































































































































end Go.Proofs.Ytjafekjcncmjjaa

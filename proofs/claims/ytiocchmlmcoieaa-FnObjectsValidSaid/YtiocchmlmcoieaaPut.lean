/-
  Contracts of impl.PutNumber and spec.PutNumber: the bytes that each returns, in memory of its own. Contract of spec.PutNumber: the bytes that it returns, in memory of its own.
-/
import Derived.WalkSpells
import Derived.WalkLawsBesides
import Derived.Handy
import Derived.Test.YtiocchmlmcoieaaNum
import Derived.Test.YtiocchmlmcoieaaBase
/- Contracts of impl.PutNumber and spec.PutNumber: the bytes that each returns, in memory of its own. -/
namespace Go.Proofs.Ytiocchmlmcoieaa
open Go.RowKit

/-- The bytes of a number, the lowest one first. -/
def bytesOf (n : Int) (k : Nat) : List Int := (List.range k).map fun j => n / 256 ^ j % 256
theorem bytesOf_length (n : Int) (k : Nat) : (bytesOf n k).length = k := by simp [bytesOf]
theorem bytesOf_wf (n : Int) (k : Nat) : ∀ x ∈ bytesOf n k, (Lit.int .u8 x).wf = true := by
  intro x hx
  simp only [bytesOf, List.mem_map] at hx
  obtain ⟨j, _, rfl⟩ := hx
  exact wf_u8.mpr ⟨Int.emod_nonneg _ (by decide), Int.emod_lt_of_pos _ (by decide)⟩















































































/-- What PutNumber answers: no bytes where it has no answer. -/
def putList (n k : Int) : List Int := if 1 ≤ k ∧ k ≤ 4 ∧ 0 ≤ n ∧ n < pw k then bytesOf n k.toNat else []
theorem putList_yes {n k : Int} (h1 : 1 ≤ k) (h2 : k ≤ 4) (h3 : 0 ≤ n) (h4 : n < pw k) : putList n k = bytesOf n k.toNat := by unfold putList; rw [if_pos ⟨h1, h2, h3, h4⟩]
theorem putList_no {n k : Int} (h : k < 1 ∨ 4 < k ∨ n < 0 ∨ pw k ≤ n) : putList n k = [] := by unfold putList; rw [if_neg (by omega)]
theorem putList_wf (n k : Int) : ∀ x ∈ putList n k, (Lit.int .u8 x).wf = true := by
  unfold putList; split
  · exact bytesOf_wf _ _
  · intro x hx; simp at hx
theorem putList_short (n k : Int) : (putList n k).length ≤ 4 := by
  unfold putList; split
  · rw [bytesOf_length]; omega
  · simp
/-- The slice at 'a' holds these bytes in the first new block, alone. -/
def Own (w w' : World) (a : Option Addr) (l : List Int) : Prop :=
  0 < l.length → a = some ⟨w.heap.size, 0, none⟩ ∧ Has w' w.heap.size 5 (l.map (Value.int .u8)).toArray
theorem Own.ints {w w' : World} {a : Option Addr} {n k : Int} (h : Own w w' a (putList n k)) : Ints w' .u8 w'.heap.size a (putList n k) :=
  ⟨putList_wf n k, fun hn => by
    obtain ⟨rfl, hh⟩ := h hn
    exact (Ints.ofHas hh rfl (putList_wf n k) hh.lt).2 hn⟩
theorem put_none {P : Program} {f : FuncId} {args : Array Value} {w : World} {n k : Int} (h : k < 1 ∨ 4 < k ∨ n < 0 ∨ pw k ≤ n) (c : Calls P f args w fun e w' => e = .returned (.slice none 0 0) ∧ w = w') :
    Calls P f args w fun e w' => ∃ a, e = .returned (.slice a (putList n k).length (putList n k).length) ∧ Own w w' a (putList n k) ∧ Below w.heap.size w w' :=
  c.mono fun e w' ⟨he, hw⟩ => by
    subst hw
    rw [putList_no h]
    exact ⟨none, he, fun h => by simp at h, Below.refl _ _⟩
theorem put_some {P : Program} {f : FuncId} {args : Array Value} {w : World} {n k : Int} {m : Nat} {cs : Array Value} (hk : k = m) (h1 : 1 ≤ k) (h2 : k ≤ 4) (h3 : 0 ≤ n) (h4 : n < pw k) (hcs : cs = ((bytesOf n m).map (Value.int .u8)).toArray)
    (c : Calls P f args w fun e w' => e = .returned (.slice (some ⟨w.heap.size, 0, none⟩) m m) ∧ w' = w.alloc (.cells cs 5)) :
    Calls P f args w fun e w' => ∃ a, e = .returned (.slice a (putList n k).length (putList n k).length) ∧ Own w w' a (putList n k) ∧ Below w.heap.size w w' :=
  c.mono fun e w' ⟨he, hw⟩ => by
    subst hw
    subst hk
    rw [putList_yes h1 h2 h3 h4, Int.toNat_natCast, bytesOf_length]
    exact ⟨_, he, fun _ => ⟨rfl, by rw [← hcs]; exact Has.new _ _ _⟩, (Below.refl _ _).alloc (Nat.le_refl _) _⟩
theorem bytesOf_1 (n : Int) (h0 : 0 ≤ n) (h : n < 256) : bytesOf n 1 = [n] := by
  simp [bytesOf, List.range_succ]; omega
theorem bytesOf_2 (n : Int) (h0 : 0 ≤ n) (h : n < 65536) : bytesOf n 2 = [n % 256, n / 256] := by
  simp [bytesOf, List.range_succ]; omega
theorem bytesOf_3 (n : Int) (h0 : 0 ≤ n) (h : n < 16777216) : bytesOf n 3 = [n % 256, n / 256 % 256, n / 65536] := by
  simp [bytesOf, List.range_succ]; omega
theorem bytesOf_4 (n : Int) (h0 : 0 ≤ n) (h : n < 4294967296) : bytesOf n 4 = [n % 256, n / 256 % 256, n / 65536 % 256, n / 16777216] := by
  simp [bytesOf, List.range_succ]; omega






















end Go.Proofs.Ytiocchmlmcoieaa
/- Contract of spec.PutNumber: the bytes that it returns, in memory of its own. -/
namespace Go.Proofs.Ytiocchmlmcoieaa
open Go.RowKit

theorem bytesOf_succ (n : Int) (k : Nat) : bytesOf n (k + 1) = bytesOf n k ++ [n / 256 ^ k % 256] := by
  simp [bytesOf, List.range_succ]
theorem div_next (n : Int) (k : Nat) : n / 256 ^ k / 256 = n / 256 ^ (k + 1) := by
  rw [Int.ediv_ediv_of_nonneg (Int.le_of_lt (Int.pow_pos (by decide))), Int.pow_succ]

















































































































































































































































































end Go.Proofs.Ytiocchmlmcoieaa

/-
  Plain lemmas on numbers and bits that the proofs over the numbers' functions use; nothing of the program stands here. Contract of the model's test of bounds. Plain words on names: which texts are names. Plain words on tables of names: the text at a place; the first place of a text. Plain words on sorted lists of texts. Contracts of impl.AlignUp, and that the laws' fixed answer is right. Words of my own for memory: a block known whole, a slice of integers that reads as a list; how each is carried over draws, new blocks and stores. What a law is told of the bytes that came in.
-/
import Derived.Laws.BitsAllLaws
import Derived.Laws.BitsLemmas
import Derived.WalkKit
import Derived.WalkSpells
import Derived.WalkLawsBesides
import Derived.Handy
import Derived.Laws.BytesArg
import Derived.Below
import Derived.Laws.OwnMore
import Derived.Deep.Draws
import Derived.Laws.Rows
import Derived.Test.YtiocchmlmcoieaaRows
/- Plain lemmas on numbers and bits that the proofs over the numbers' functions use; nothing of the program stands here. -/
namespace Go.Proofs.Ytiocchmlmcoieaa
theorem nat_clear (i x : Nat) (hi : i ≤ 64) (hx : x < 2 ^ 64) : x &&& (2 ^ 64 - (2 ^ i - 1 + 1)) = x / 2 ^ i * 2 ^ i := by
  apply Nat.eq_of_testBit_eq
  intro j
  have hp : 2 ^ i - 1 < 2 ^ 64 := by
    have := Nat.two_pow_pos i
    have := Nat.pow_le_pow_right (n := 2) (by decide) hi
    omega
  rw [Nat.testBit_and, Nat.testBit_two_pow_sub_succ hp, Nat.testBit_two_pow_sub_one, Nat.testBit_mul_two_pow, Nat.testBit_div_two_pow]
  by_cases h : j < i
  · have h2 : ¬ i ≤ j := by omega
    simp [h, h2]
  · have h2 : i ≤ j := by omega
    have e : j - i + i = j := by omega
    by_cases h3 : j < 64
    · simp [h, h2, h3, e]
    · have : x.testBit j = false := Nat.testBit_lt_two_pow (Nat.lt_of_lt_of_le hx (Nat.pow_le_pow_right (by decide) (by omega)))
      simp [this, e]
theorem i64_clear_nat (x m i : Nat) (hi : i ≤ 32) (hm : m = 2 ^ i - 1) (hx : x < 2147483648) : bits .andNot .i64 (x : Int) (m : Int) = ((x / 2 ^ i * 2 ^ i : Nat) : Int) := by
  have hp := Nat.two_pow_pos i
  have hq := Nat.pow_le_pow_right (n := 2) (by decide) hi
  have e : (BitVec.ofInt 64 (x : Int) &&& ~~~BitVec.ofInt 64 (m : Int)).toNat = x / 2 ^ i * 2 ^ i := by
    rw [BitVec.toNat_and, BitVec.toNat_not, BitVec.ofInt_natCast, BitVec.ofInt_natCast, BitVec.toNat_ofNat, BitVec.toNat_ofNat]
    have e1 : x % 2 ^ 64 = x := Nat.mod_eq_of_lt (by omega)
    have e2 : m % 2 ^ 64 = m := Nat.mod_eq_of_lt (by omega)
    rw [e1, e2, ← nat_clear i x (by omega) (by omega), hm]
    congr 1
    omega
  have h := Nat.div_mul_le_self x (2 ^ i)
  show IntKind.i64.wrap (((BitVec.ofInt 64 (x : Int) &&& ~~~BitVec.ofInt 64 (m : Int)).toNat : Nat) : Int) = _
  rw [e, IntKind.wrap_i64]
  generalize x / 2 ^ i * 2 ^ i = y at h ⊢
  omega
theorem i64_clear (x m : Int) (i : Nat) (hi : i ≤ 32) (hm : m = 2 ^ i - 1) (h0 : 0 ≤ x) (hx : x < 2147483648) : bits .andNot .i64 x m = x / 2 ^ i * 2 ^ i := by
  obtain ⟨a, rfl⟩ := Int.eq_ofNat_of_zero_le h0
  have e : m = ((2 ^ i - 1 : Nat) : Int) := by rw [Int.natCast_sub (Nat.two_pow_pos i)]; simp [hm]
  rw [e, i64_clear_nat a _ i hi rfl (by omega)]
  simp

/-- How many numbers bytes can have: at 1, 2, 3 and 4. -/
def pw (k : Int) : Int := if k = 1 then 256 else if k = 2 then 65536 else if k = 3 then 16777216 else 4294967296
theorem ret_int {k : IntKind} {a b : Int} (h : a = b) : Ending.returned (.int k a) = .returned (.int k b) := by rw [h]
theorem ret_bool {a b : Bool} (h : a = b) : Ending.returned (.bool a) = .returned (.bool b) := by rw [h]
end Go.Proofs.Ytiocchmlmcoieaa
/- Contract of the model's test of bounds. -/
namespace Go.Proofs.Ytiocchmlmcoieaa
open Go.RowKit

theorem l1In_yes (n lo hi : Int) (h : lo ≤ n) (h' : n ≤ hi) (w : World) :
    Calls Try.prog 35 #[.int .i64 n, .int .i64 lo, .int .i64 hi] w fun e w' => e = .returned (.bool true) ∧ w = w' := by
  go_enter Try.func35, Try.ntmps35
  go_wp2
  go_ret
  exact ⟨rfl, rfl⟩

theorem l1In_low (n lo hi : Int) (h : n < lo) (w : World) :
    Calls Try.prog 35 #[.int .i64 n, .int .i64 lo, .int .i64 hi] w fun e w' => e = .returned (.bool false) ∧ w = w' := by
  go_enter Try.func35, Try.ntmps35
  go_wp2
  go_ret
  exact ⟨rfl, rfl⟩

theorem l1In_high (n lo hi : Int) (h : hi < n) (w : World) :
    Calls Try.prog 35 #[.int .i64 n, .int .i64 lo, .int .i64 hi] w fun e w' => e = .returned (.bool false) ∧ w = w' := by
  by_cases h' : lo ≤ n
  · have hd : decide (n ≤ hi) = false := by simp; omega
    go_enter Try.func35, Try.ntmps35
    go_wp2
    go_ret
    exact ⟨rfl, rfl⟩
  · exact l1In_low n lo hi (by omega) w

end Go.Proofs.Ytiocchmlmcoieaa
/- Plain words on names: which texts are names. -/
namespace Go.Proofs.Ytiocchmlmcoieaa
open Go.RowKit

def letterC (c : Nat) : Bool := decide (97 ≤ c ∧ c ≤ 122) || decide (c = 95) || decide (c = 46)
def digitC (c : Nat) : Bool := decide (48 ≤ c ∧ c ≤ 57)
/-- The byte at place k may stand in a name. -/
def okAt (l : List UInt8) (k : Nat) : Bool := letterC (l.getD k 0).toNat || (digitC (l.getD k 0).toNat && decide (k ≠ 0))
def nameOk (l : List UInt8) : Bool := decide (1 ≤ l.length ∧ l.length ≤ 8) && (List.range l.length).all (okAt l)
theorem nameOk_iff (l : List UInt8) : nameOk l = true ↔ (1 ≤ l.length ∧ l.length ≤ 8) ∧ ∀ k, k < l.length → okAt l k = true := by
  simp [nameOk, List.all_eq_true]
theorem nameOk_bad {l : List UInt8} {k : Nat} (hk : k < l.length) (h : okAt l k = false) : nameOk l = false := by
  rcases hb : nameOk l with _ | _
  · rfl
  · rw [nameOk_iff] at hb
    rw [hb.2 k hk] at h; cases h
theorem nameOk_all {l : List UInt8} (h : ∀ k, k < l.length → okAt l k = true) : nameOk l = decide (1 ≤ l.length ∧ l.length ≤ 8) := by
  have : (List.range l.length).all (okAt l) = true := by simp [List.all_eq_true]; exact h
  simp [nameOk, this]
theorem all_next {l : List UInt8} {k : Nat} (h : ∀ j, j < k → okAt l j = true) (hk : okAt l k = true) : ∀ j, j < k + 1 → okAt l j = true := by
  intro j hj
  rcases Nat.lt_or_ge j k with h1 | h1
  · exact h j h1
  · have : j = k := by omega
    subst this; exact hk
theorem toList_loop (s : ByteArray) : ∀ (n i : Nat) (r : List UInt8), n = s.size - i → ByteArray.toList.loop s i r = r.reverse ++ s.data.toList.drop i := by
  intro n
  induction n with
  | zero =>
    intro i r h
    unfold ByteArray.toList.loop
    rw [if_neg (by omega), List.drop_eq_nil_of_le (by simp; omega)]; simp
  | succ n ih =>
    intro i r h
    unfold ByteArray.toList.loop
    rw [if_pos (by omega), ih _ _ (by omega)]
    have hi : i < s.data.toList.length := by simp; omega
    rw [List.drop_eq_getElem_cons hi]
    have hi' : i < s.size := by omega
    have : s.get! i = s.data.toList[i] := by simp [ByteArray.get!, hi']
    rw [this]; simp
theorem toList_data (s : ByteArray) : s.toList = s.data.toList := by
  unfold ByteArray.toList; rw [toList_loop s s.size 0 [] (by omega)]; simp
theorem str_ne {u s : ByteArray} (h : u ≠ s) : (u.toList == s.toList) = false := by
  rw [toList_data, toList_data]
  rcases hb : (u.data.toList == s.data.toList) with _ | _
  · rfl
  · exfalso; apply h
    have := eq_of_beq hb
    exact ByteArray.ext (Array.toList_inj.1 this)
theorem byte_at (s : ByteArray) (k : Nat) (h : k < s.size) : s.data.toList.getD k 0 = s[k] := by
  have h' : k < s.data.toList.length := by simpa using h
  rw [List.getD, List.getElem?_eq_getElem h']
  rfl

end Go.Proofs.Ytiocchmlmcoieaa
/- Plain words on tables of names: the text at a place; the first place of a text. -/
namespace Go.Proofs.Ytiocchmlmcoieaa
open Go.RowKit

/-- The text whose bytes stand from place n on up to the next byte 0. -/
def textAt (l : List Int) (n : Int) : Option (List Int) :=
  if 0 ≤ n ∧ n < l.length ∧ (0 : Int) ∈ l.drop n.toNat then some ((l.drop n.toNat).takeWhile fun x => decide (x ≠ 0)) else none
theorem textAt_out {l : List Int} {n : Int} (h : n < 0 ∨ (l.length : Int) ≤ n) : textAt l n = none := by
  unfold textAt; rw [if_neg (by omega)]
theorem textAt_none {l : List Int} {m : Nat} (h : ∀ j, m ≤ j → j < l.length → l.getD j 0 ≠ 0) : textAt l m = none := by
  unfold textAt
  rw [if_neg]
  rintro ⟨_, _, h0⟩
  rw [Int.toNat_natCast] at h0
  obtain ⟨i, hi, hx⟩ := List.getElem_of_mem h0
  rw [List.length_drop] at hi
  apply h (m + i) (by omega) (by omega)
  rw [List.getElem_drop] at hx
  simp [List.getD, List.getElem?_eq_getElem (show m + i < l.length by omega), hx]
theorem takeWhile_stop : ∀ (l : List Int) (k : Nat), k < l.length → l.getD k 0 = 0 → (∀ j, j < k → l.getD j 0 ≠ 0) → (l.takeWhile fun x => decide (x ≠ 0)) = l.take k
  | [], k, hk, _, _ => by simp at hk
  | x :: r, 0, _, h0, _ => by simp at h0; simp [h0]
  | x :: r, k + 1, hk, h0, hn => by
    have hx : x ≠ 0 := by have := hn 0 (by omega); simpa using this
    rw [List.takeWhile_cons, if_pos (by simpa using hx), List.take_succ_cons, takeWhile_stop r k (by simpa using hk) (by simpa using h0) (fun j hj => by have := hn (j + 1) (by omega); simpa using this)]
theorem textAt_found {l : List Int} {m e : Nat} (he : m ≤ e) (hl : e < l.length) (h0 : l.getD e 0 = 0) (h : ∀ j, m ≤ j → j < e → l.getD j 0 ≠ 0) : textAt l m = some ((l.drop m).take (e - m)) := by
  have g : ∀ i, (l.drop m).getD i 0 = l.getD (m + i) 0 := fun i => by simp [List.getD]
  have hm : (0 : Int) ∈ l.drop m := by
    rw [List.mem_iff_getElem]
    refine ⟨e - m, by simp; omega, ?_⟩
    rw [List.getElem_drop]
    have : l[m + (e - m)]'(by omega) = l.getD e 0 := by
      simp only [show m + (e - m) = e by omega]
      simp [List.getD, List.getElem?_eq_getElem hl]
    rw [this, h0]
  unfold textAt
  rw [Int.toNat_natCast, if_pos ⟨by omega, by omega, hm⟩, takeWhile_stop (l.drop m) (e - m) (by simp; omega) (by rw [g, show m + (e - m) = e by omega]; exact h0) (fun j hj => by rw [g]; exact h (m + j) (by omega) (by omega))]
/-- What NameAt answers. -/
def textVal : Option (List Int) → Value
  | some t => .tuple #[.string (strOfNums t), .bool true]
  | none => .tuple #[.string ⟨#[]⟩, .bool false]
/-- The first place from which a text stands. -/
def firstAt (l : List Int) (s : ByteArray) : Nat → Nat → Int
  | _, 0 => -1
  | k, n + 1 => if (textAt l k).map strOfNums = some s then k else firstAt l s (k + 1) n

end Go.Proofs.Ytiocchmlmcoieaa
/- Plain words on sorted lists of texts. -/
namespace Go.Proofs.Ytiocchmlmcoieaa
open Go.RowKit

/-- A text is before another one, byte by byte. -/
def ltS (a b : ByteArray) : Bool := Op.bytesLess a.toList b.toList
/-- Where a text goes in a sorted list. -/
def posS (l : List ByteArray) (s : ByteArray) : Nat := (l.takeWhile fun x => ltS x s).length
/-- A text put into a sorted list, once. -/
def insertS (l : List ByteArray) (s : ByteArray) : List ByteArray := if l[posS l s]? = some s then l else l.take (posS l s) ++ s :: l.drop (posS l s)
theorem posS_le (l : List ByteArray) (s : ByteArray) : posS l s ≤ l.length := List.Sublist.length_le (List.takeWhile_sublist _)
theorem posS_at : ∀ (l : List ByteArray) (s : ByteArray) (k : Nat), k ≤ l.length → (∀ j x, j < k → l[j]? = some x → ltS x s = true) → (∀ x, l[k]? = some x → ltS x s = false) → posS l s = k
  | [], s, k, hk, _, _ => by simp at hk; subst hk; rfl
  | y :: r, s, 0, _, _, h => by
    have := h y (by simp)
    simp [posS, this]
  | y :: r, s, k + 1, hk, h1, h2 => by
    have hy := h1 0 y (by omega) (by simp)
    have := posS_at r s k (by simpa using hk) (fun j x hj hx => h1 (j + 1) x (by omega) (by simpa using hx)) (fun x hx => h2 x (by simpa using hx))
    unfold posS at this ⊢
    rw [List.takeWhile_cons, if_pos hy, List.length_cons, this]
theorem insertS_length (l : List ByteArray) (s : ByteArray) : (insertS l s).length ≤ l.length + 1 := by
  unfold insertS; split
  · omega
  · have := posS_le l s; simp; omega

end Go.Proofs.Ytiocchmlmcoieaa
/- Contracts of impl.AlignUp, and that the laws' fixed answer is right. -/
namespace Go.Proofs.Ytiocchmlmcoieaa
open Go.RowKit

theorem alignValid_1  (w : World) :
    Calls Try.prog 54 #[.int .i64 1] w fun e w' => e = .returned (.bool true) ∧ w = w' := by
  go_enter Try.func54, Try.ntmps54
  go_wp2
  go_ret
  exact ⟨rfl, rfl⟩

theorem alignValid_2  (w : World) :
    Calls Try.prog 54 #[.int .i64 2] w fun e w' => e = .returned (.bool true) ∧ w = w' := by
  go_enter Try.func54, Try.ntmps54
  go_wp2
  go_ret
  exact ⟨rfl, rfl⟩

theorem alignValid_4  (w : World) :
    Calls Try.prog 54 #[.int .i64 4] w fun e w' => e = .returned (.bool true) ∧ w = w' := by
  go_enter Try.func54, Try.ntmps54
  go_wp2
  go_ret
  exact ⟨rfl, rfl⟩

theorem alignValid_8  (w : World) :
    Calls Try.prog 54 #[.int .i64 8] w fun e w' => e = .returned (.bool true) ∧ w = w' := by
  go_enter Try.func54, Try.ntmps54
  go_wp2
  go_ret
  exact ⟨rfl, rfl⟩

theorem alignValid_no (to : Int) (h1 : (to == 1) = false) (h2 : (to == 2) = false) (h4 : (to == 4) = false) (h8 : (to == 8) = false) (w : World) :
    Calls Try.prog 54 #[.int .i64 to] w fun e w' => e = .returned (.bool false) ∧ w = w' := by
  go_enter Try.func54, Try.ntmps54
  go_wp2
  go_ret
  exact ⟨rfl, rfl⟩

theorem alignUp_low (n to : Int) (h : n < 0) (w : World) :
    Calls Try.prog 31 #[.int .i64 n, .int .i64 to] w fun e w' => e = .returned (.int .i64 (-1)) ∧ w = w' := by
  go_enter Try.func31, Try.ntmps31
  go_wp2
  go_ret
  exact ⟨rfl, rfl⟩

theorem alignUp_high (n to : Int) (h : 1000000 < n) (w : World) :
    Calls Try.prog 31 #[.int .i64 n, .int .i64 to] w fun e w' => e = .returned (.int .i64 (-1)) ∧ w = w' := by
  go_enter Try.func31, Try.ntmps31
  go_wp2
  go_ret
  exact ⟨rfl, rfl⟩

theorem alignUp_no (n to : Int) (h0 : 0 ≤ n) (h : n ≤ 1000000) (h1 : (to == 1) = false) (h2 : (to == 2) = false) (h4 : (to == 4) = false) (h8 : (to == 8) = false) (w : World) :
    Calls Try.prog 31 #[.int .i64 n, .int .i64 to] w fun e w' => e = .returned (.int .i64 (-1)) ∧ w = w' := by
  go_enter Try.func31, Try.ntmps31
  go_wp2_with (first | (go_at_call 54; (with_reducible refine (alignValid_no _ h1 h2 h4 h8 _).mono ?_); rintro e w' ⟨rfl, rfl⟩))
  go_ret
  exact ⟨rfl, rfl⟩

theorem alignUp_1 (n : Int) (h : 0 ≤ n) (h' : n ≤ 1000000) (w : World) :
    Calls Try.prog 31 #[.int .i64 n, .int .i64 1] w fun e w' => e = .returned (.int .i64 ((n + 0) / 1 * 1)) ∧ w = w' := by
  go_enter Try.func31, Try.ntmps31
  go_wp2_with (first | (go_at_call 54; (with_reducible refine (alignValid_1 _).mono ?_); rintro e w' ⟨rfl, rfl⟩))
  go_ret
  exact ⟨ret_int (by rw [i64_clear _ _ 0 (by omega) (by decide) (by omega) (by omega)]; omega), rfl⟩

theorem alignUp_2 (n : Int) (h : 0 ≤ n) (h' : n ≤ 1000000) (w : World) :
    Calls Try.prog 31 #[.int .i64 n, .int .i64 2] w fun e w' => e = .returned (.int .i64 ((n + 1) / 2 * 2)) ∧ w = w' := by
  go_enter Try.func31, Try.ntmps31
  go_wp2_with (first | (go_at_call 54; (with_reducible refine (alignValid_2 _).mono ?_); rintro e w' ⟨rfl, rfl⟩))
  go_ret
  exact ⟨ret_int (by rw [i64_clear _ _ 1 (by omega) (by decide) (by omega) (by omega)]; omega), rfl⟩

theorem alignUp_4 (n : Int) (h : 0 ≤ n) (h' : n ≤ 1000000) (w : World) :
    Calls Try.prog 31 #[.int .i64 n, .int .i64 4] w fun e w' => e = .returned (.int .i64 ((n + 3) / 4 * 4)) ∧ w = w' := by
  go_enter Try.func31, Try.ntmps31
  go_wp2_with (first | (go_at_call 54; (with_reducible refine (alignValid_4 _).mono ?_); rintro e w' ⟨rfl, rfl⟩))
  go_ret
  exact ⟨ret_int (by rw [i64_clear _ _ 2 (by omega) (by decide) (by omega) (by omega)]; omega), rfl⟩

theorem alignUp_8 (n : Int) (h : 0 ≤ n) (h' : n ≤ 1000000) (w : World) :
    Calls Try.prog 31 #[.int .i64 n, .int .i64 8] w fun e w' => e = .returned (.int .i64 ((n + 7) / 8 * 8)) ∧ w = w' := by
  go_enter Try.func31, Try.ntmps31
  go_wp2_with (first | (go_at_call 54; (with_reducible refine (alignValid_8 _).mono ?_); rintro e w' ⟨rfl, rfl⟩))
  go_ret
  exact ⟨ret_int (by rw [i64_clear _ _ 3 (by omega) (by decide) (by omega) (by omega)]; omega), rfl⟩

theorem alive_any (w : World) : Calls Try.prog 11 #[] w fun e w' => e = .returned (.bool true) ∧ w = w' := by
  go_enter Try.func11, Try.ntmps11
  go_wp2_with (first | (go_at_call 31; (with_reducible refine (alignUp_4 5 (by omega) (by omega) _).mono ?_); rintro e w' ⟨rfl, rfl⟩))
  go_ret
  exact ⟨rfl, rfl⟩

end Go.Proofs.Ytiocchmlmcoieaa
/- Words of my own for memory: a block known whole, a slice of integers that reads as a list; how each is carried over draws, new blocks and stores. -/
namespace Go.Proofs.Ytiocchmlmcoieaa
open Go.RowKit

/-- Block 'g' is exactly these cells, of element type 't', none of them frozen. -/
def Has (w : World) (g : Nat) (t : TypeId) (cs : Array Value) : Prop := w.heap[g]? = some (.cells cs t (0, 0))
section
variable {w w' : World} {g : Nat} {t : TypeId} {cs : Array Value}
theorem Has.lt (h : Has w g t cs) : g < w.heap.size := by
  rcases Nat.lt_or_ge g w.heap.size with a | a
  · exact a
  · unfold Has at h; rw [Array.getElem?_eq_none a] at h; cases h
theorem Has.cell (h : Has w g t cs) (i : Nat) : w.cell? ⟨g, i, none⟩ = cs[i]? := cell_of_row w g i cs t (0, 0) h
theorem Has.free (h : Has w g t cs) (i : Nat) : w.frozen? ⟨g, i, none⟩ = false := by
  unfold Has at h; simp [World.frozen?, h]
theorem Has.new (w : World) (t : TypeId) (cs : Array Value) : Has (w.alloc (.cells cs t)) w.heap.size t cs := heap_alloc_new w _
theorem Has.drew (h : Has w g t cs) : Has w.drew g t cs := h
theorem Has.drewN (h : Has w g t cs) (n : Nat) : Has (w.drewN n) g t cs := h
theorem Has.alloc (h : Has w g t cs) (o : Obj) : Has (w.alloc o) g t cs := (Below.heap_alloc w o g h.lt).trans h
theorem Has.put (h : Has w g t cs) (i : Nat) (u : Value) : Has (w.setCell ⟨g, i, none⟩ u) g t (cs.setIfInBounds i u) := by
  unfold Has at h ⊢
  simp [World.setCell, Array.getElem?_modify, h]
theorem Has.away (h : Has w g t cs) {p : Addr} (hp : g ≠ p.block) (u : Value) : Has (w.setCell p u) g t cs := (Below.heap_setCell w p u g hp).trans h
theorem Has.below {B : Nat} (h : Has w g t cs) (hb : Below B w w') (hg : g < B) : Has w' g t cs := (hb.block g hg).trans h
theorem Has.grown {row : Option Nat} (h : Has w g t cs) (hb : w.grownBy w' row) (hg : some g ≠ row) : Has w' g t cs := (hb.block g h.lt hg).trans h
theorem Has.differ {g' : Nat} {t' : TypeId} {cs' : Array Value} (h : Has w g t cs) (h' : Has w g' t' cs') (hne : t ≠ t') : g ≠ g' := by
  rintro rfl
  unfold Has at h h'
  rw [h] at h'
  injection h' with h'
  injection h' with _ ht
  exact hne ht
end

/-- The slice at address 'a' holds the numbers 'l' of kind 'k', in a block below 'B' (where it holds any). -/
def Ints (w : World) (k : IntKind) (B : Nat) (a : Option Addr) (l : List Int) : Prop :=
  (∀ x ∈ l, (Lit.int k x).wf = true) ∧ (0 < l.length → ∃ b off, a = some ⟨b, off, none⟩ ∧ b < B ∧ ∀ i, i < l.length → w.cell? ⟨b, off + i, none⟩ = some (.int k (l.getD i 0)))
section
variable {w w' : World} {k : IntKind} {B B' : Nat} {a : Option Addr} {l : List Int}
theorem Ints.at_ (h : Ints w k B a l) {i : Nat} (hi : i < l.length) : ∃ b off, a = some ⟨b, off, none⟩ ∧ b < B ∧ w.cell? ⟨b, off + i, none⟩ = some (.int k (l.getD i 0)) := by
  obtain ⟨b, off, ha, hb, hc⟩ := h.2 (by omega)
  exact ⟨b, off, ha, hb, hc i hi⟩
theorem Ints.wfAt (h : Ints w k B a l) {i : Nat} (hi : i < l.length) : (Lit.int k (l.getD i 0)).wf = true := by
  apply h.1
  simp [List.getD, List.getElem?_eq_getElem hi]
theorem Ints.keep (h : Ints w k B a l) (hk : ∀ p : Addr, p.block < B → w'.cell? p = w.cell? p) : Ints w' k B a l :=
  ⟨h.1, fun hn => by
    obtain ⟨b, off, ha, hb, hc⟩ := h.2 hn
    exact ⟨b, off, ha, hb, fun i hi => (hk _ hb).trans (hc i hi)⟩⟩
theorem Ints.more (h : Ints w k B a l) (hB : B ≤ B') : Ints w k B' a l :=
  ⟨h.1, fun hn => by
    obtain ⟨b, off, ha, hb, hc⟩ := h.2 hn
    exact ⟨b, off, ha, by omega, hc⟩⟩
theorem Ints.below (h : Ints w k B a l) (hb : Below B w w') : Ints w' k B a l := h.keep fun _ hp => hb.cell hp
theorem Ints.drewN (h : Ints w k B a l) (n : Nat) : Ints (w.drewN n) k B a l := h
theorem Ints.alloc (h : Ints w k B a l) (hB : B ≤ w.heap.size) (o : Obj) : Ints (w.alloc o) k B a l := h.keep fun p hp => World.cell?_alloc_lt w o p (by omega)
theorem Ints.take (h : Ints w k B a l) (n : Nat) : Ints w k B a (l.take n) :=
  ⟨fun x hx => h.1 x (List.mem_of_mem_take hx), fun hn => by
    rw [List.length_take] at hn
    obtain ⟨b, off, ha, hb, hc⟩ := h.2 (by omega)
    refine ⟨b, off, ha, hb, fun i hi => ?_⟩
    rw [List.length_take] at hi
    rw [hc i (by omega)]
    simp [List.getD, show i < n by omega]⟩
theorem Ints.ofHas {g : Nat} {t : TypeId} {cs : Array Value} (h : Has w g t cs) (hcs : cs = (l.map (Value.int k)).toArray) (hwf : ∀ x ∈ l, (Lit.int k x).wf = true) (hB : g < B) :
    Ints w k B (some ⟨g, 0, none⟩) l :=
  ⟨hwf, fun _ => ⟨g, 0, rfl, hB, fun i hi => by
    rw [h.cell, hcs]
    simp [List.getD, List.getElem?_eq_getElem hi]⟩⟩
end
theorem hidden {p : Prop} (h : p) : Hid p := h
theorem wf_u8 {x : Int} : (Lit.int .u8 x).wf = true ↔ 0 ≤ x ∧ x < 256 := by
  simp [Lit.wf, IntKind.min, IntKind.max, IntKind.signed, IntKind.bits]; omega
/-- Draws, new blocks: what a walk that writes nothing old leaves. -/
theorem below_drewN {B : Nat} {a w : World} (h : Below B a w) (n : Nat) : Below B a (w.drewN n) := ⟨h.os, h.tape, h.output, h.size, h.block⟩
theorem lt_of_cell {w : World} {p : Addr} {v : Value} (h : w.cell? p = some v) : p.block < w.heap.size := by
  rcases Nat.lt_or_ge p.block w.heap.size with a | a
  · exact a
  · simp [World.cell?, Array.getElem?_eq_none a] at h
/-- What the row's step tells of a slice of integers that came in, as 'Ints'. -/
theorem Ints.ofRow {w : World} {k : IntKind} {a : Option Addr} {len cap : Nat} {zs : List Int}
    (h : (a = none ∧ len = 0 ∧ cap = 0 ∧ zs = []) ∨
      ∃ x, a = some x ∧ len ≤ cap ∧ cap ≤ maxLen ∧ zs.length = cap ∧ (∀ i, i < zs.length → w.cell? (x.add i) = some (.int k (zs.getD i 0))) ∧ ∀ n ∈ zs, (Lit.int k n).wf = true) :
    ∃ l, Ints w k w.heap.size a l ∧ l.length = len ∧ len ≤ 9223372036854775807 := by
  refine ⟨zs.take len, ?_, ?_, ?_⟩
  · rcases h with ⟨rfl, rfl, rfl, rfl⟩ | ⟨x, rfl, h1, h2, h3, h4, h5⟩
    · exact ⟨by simp, by simp⟩
    · refine Ints.take (l := zs) ⟨h5, fun hn => ?_⟩ len
      obtain ⟨b, off, spot⟩ := x
      have h0 := h4 0 hn
      have hspot : spot = none := by simpa [Addr.add] using World.cell?_spot h0
      subst hspot
      have hlt := lt_of_cell h0
      refine ⟨b, off, rfl, by simpa [Addr.add] using hlt, fun i hi => ?_⟩
      have := h4 i hi
      unfold Addr.add at this
      split at this
      · rename_i e; subst e; simpa using this
      · simpa using this
  · rcases h with ⟨rfl, rfl, rfl, rfl⟩ | ⟨x, rfl, h1, h2, h3, h4, h5⟩
    · rfl
    · rw [List.length_take]; omega
  · rcases h with ⟨rfl, rfl, rfl, rfl⟩ | ⟨x, rfl, h1, h2, h3, h4, h5⟩
    · omega
    · unfold maxLen at h2; omega
theorem Ints.ofRow' {w : World} {k : IntKind} {a : Option Addr} {len cap : Nat} {zs : List Int}
    (h : (a = none ∧ len = 0 ∧ cap = 0 ∧ zs = []) ∨
      ∃ x, a = some x ∧ len ≤ cap ∧ cap ≤ maxLen ∧ zs.length = cap ∧ (∀ i, i < zs.length → w.cell? (x.add i) = some (.int k (zs.getD i 0))) ∧ ∀ n ∈ zs, (Lit.int k n).wf = true) :
    ∃ l, Ints w k w.heap.size a l ∧ l.length = len ∧ len ≤ cap ∧ cap ≤ 9223372036854775807 := by
  obtain ⟨l, h1, h2, _⟩ := Ints.ofRow h
  refine ⟨l, h1, h2, ?_⟩
  rcases h with ⟨rfl, rfl, rfl, rfl⟩ | ⟨x, rfl, h1, h2, _⟩
  · omega
  · unfold maxLen at h2; omega
theorem ints_of_own {w : World} {base : Nat} {v : Value} {k : IntKind} {t : TypeId} {l : List Int} {n : Nat} (hn : n = l.length) (h : w.ownsRow base t 1 v n (l.map (Value.int k))) (hwf : ∀ x ∈ l, (Lit.int k x).wf = true) :
    ∃ a c, v = .slice a l.length c ∧ Ints w k w.heap.size a l := by
  subst hn
  rcases h.2 with ⟨rfl, h0⟩ | ⟨g, cap, cur, rfl, _, hh, _, _, _, hx⟩
  · have : l = [] := List.eq_nil_of_length_eq_zero h0
    subst this
    exact ⟨none, 0, rfl, by simp, by simp⟩
  · refine ⟨_, _, rfl, hwf, fun _ => ⟨g, 0, rfl, Has.lt (t := t) (cs := cur) hh, fun i hi => ?_⟩⟩
    rw [Nat.zero_add, Has.cell (t := t) (cs := cur) hh i, ← Array.getElem?_toList]
    have e : (cur.toList.take (l.length * 1))[i]? = cur.toList[i]? := by rw [List.getElem?_take, if_pos (by omega)]
    rw [← e, hx]
    simp [List.getD, List.getElem?_eq_getElem hi]
theorem only_trans {a b c : World} {row : Option Nat} (h : a.grownBy b row) (k : b.grownBy c row) : a.grownBy c row :=
  ⟨k.os.trans h.os, k.tape.trans h.tape, k.output.trans h.output, Nat.le_trans h.size k.size, fun i hi hn => (k.block i (Nat.lt_of_lt_of_le hi h.size) hn).trans (h.block i hi hn)⟩
theorem only_put' {w : World} {g : Nat} (i : Nat) (u : Value) : w.grownBy (w.setCell ⟨g, i, none⟩ u) (some g) :=
  ⟨rfl, rfl, rfl, by simp [World.setCell], fun k hk hne => Below.heap_setCell w ⟨g, i, none⟩ u k (fun e => hne (by rw [e]))⟩
theorem only_own {a b c : World} {g : Nat} {row : Option Nat} (h : a.grownBy b (some g)) (k : b.grownBy c row) (hr : ∀ q, row = some q → a.heap.size ≤ q) : a.grownBy c (some g) :=
  ⟨k.os.trans h.os, k.tape.trans h.tape, k.output.trans h.output, Nat.le_trans h.size k.size, fun i hi hn => (k.block i (Nat.lt_of_lt_of_le hi h.size) (fun e => by have := hr i e.symm; omega)).trans (h.block i hi hn)⟩
theorem only_alloc {a b : World} {row : Option Nat} (h : a.grownBy b row) (o : Obj) : a.grownBy (b.alloc o) row :=
  ⟨h.os, h.tape, h.output, Nat.le_trans h.size (by simp), fun i hi hn => (Below.heap_alloc b o i (Nat.lt_of_lt_of_le hi h.size)).trans (h.block i hi hn)⟩
theorem Below.only {a b : World} {g : Nat} {B : Nat} (h : a.grownBy b (some g)) (hB : B ≤ a.heap.size) (hg : B ≤ g) : Below B a b :=
  (Below.refl B a).grown h hB (fun k e => by injection e with e; omega)
theorem ints_of_own' {w : World} {base : Nat} {v : Value} {k : IntKind} {t : TypeId} {l : List Int} (h : w.ownsRow base t 1 v l.length (l.map (Value.int k))) (hwf : ∀ x ∈ l, (Lit.int k x).wf = true) :
    ∃ a c, v = .slice a l.length c ∧ l.length ≤ c ∧ Ints w k w.heap.size a l := by
  obtain ⟨a, c, hv, hi⟩ := ints_of_own rfl h hwf
  refine ⟨a, c, hv, ?_, hi⟩
  rcases h.2 with ⟨hv', h0⟩ | ⟨g, cap, cur, hv', _, _, hc, _⟩
  · omega
  · rw [hv] at hv'; injection hv' with _ _ e; omega
theorem ints_of_own3 {w : World} {base : Nat} {v : Value} {k : IntKind} {t : TypeId} {l : List Int} (h : w.ownsRow base t 1 v l.length (l.map (Value.int k))) (hwf : ∀ x ∈ l, (Lit.int k x).wf = true) :
    ∃ a c, v = .slice a l.length c ∧ l.length ≤ c ∧ c ≤ maxLen ∧ Ints w k w.heap.size a l := by
  obtain ⟨a, c, hv, hc, hi⟩ := ints_of_own' h hwf
  refine ⟨a, c, hv, hc, ?_, hi⟩
  rcases h.2 with ⟨e, _⟩ | ⟨g, cap, cur, e, _, _, _, hm, _⟩
  · rw [hv] at e; injection e with _ _ e; rw [e]; unfold maxLen; omega
  · rw [hv] at e; injection e with _ _ e; rw [e]; exact hm
theorem only_drewN {a w : World} {row : Option Nat} (h : a.grownBy w row) (n : Nat) : a.grownBy (w.drewN n) row := ⟨h.os, h.tape, h.output, h.size, h.block⟩
theorem only_put {w : World} {g : Nat} (i : Nat) (u : Value) : w.grownBy (w.setCell ⟨g, i, none⟩ u) (some g) :=
  ⟨rfl, rfl, rfl, by simp [World.setCell], fun k hk hne => Below.heap_setCell w ⟨g, i, none⟩ u k (fun e => hne (by rw [e]))⟩
end Go.Proofs.Ytiocchmlmcoieaa
/- What a law is told of the bytes that came in. -/
namespace Go.Proofs.Ytiocchmlmcoieaa
open Go.RowKit

/-- A slice of bytes that came in: a list, read. -/
def Came (w : World) (a : Option Addr) (len cap : Nat) : Prop := ∃ l, Ints w .u8 w.heap.size a l ∧ l.length = len ∧ len ≤ cap ∧ cap ≤ 9223372036854775807

end Go.Proofs.Ytiocchmlmcoieaa

import Derived.Laws.BitsAllLaws
import Derived.Laws.BitsLemmas
import Derived.WalkKit
import Derived.WalkSpells
import Derived.WalkLawsBesides
import Derived.Handy
import Derived.Laws.BytesArg
import Derived.Below
import Derived.Laws.OwnMore
import Derived.Deep.Draws
import Derived.Laws.Rows
import Derived.Test.YtpfombelhajmlaaGreatDoorRows
namespace Go.Proofs.YtpfombelhajmlaaGreatDoor
def pw (k : Int) : Int := if k = 1 then 256 else if k = 2 then 65536 else if k = 3 then 16777216 else 4294967296
theorem ret_int {k : IntKind} {a b : Int} (h : a = b) : Ending.returned (.int k a) = .returned (.int k b) := by rw [h]
theorem ret_bool {a b : Bool} (h : a = b) : Ending.returned (.bool a) = .returned (.bool b) := by rw [h]
end Go.Proofs.YtpfombelhajmlaaGreatDoor
namespace Go.Proofs.YtpfombelhajmlaaGreatDoor
open Go.RowKit
theorem l1In_yes (n lo hi : Int) (h : lo ≤ n) (h' : n ≤ hi) (w : World) :
    Calls Tryz.prog 41 #[.int .i64 n, .int .i64 lo, .int .i64 hi] w fun e w' => e = .returned (.bool true) ∧ w = w' := by
  go_enter Tryz.func41, Tryz.ntmps41
  go_wp2
  go_ret
  exact ⟨rfl, rfl⟩
theorem l1In_low (n lo hi : Int) (h : n < lo) (w : World) :
    Calls Tryz.prog 41 #[.int .i64 n, .int .i64 lo, .int .i64 hi] w fun e w' => e = .returned (.bool false) ∧ w = w' := by
  go_enter Tryz.func41, Tryz.ntmps41
  go_wp2
  go_ret
  exact ⟨rfl, rfl⟩
theorem l1In_high (n lo hi : Int) (h : hi < n) (w : World) :
    Calls Tryz.prog 41 #[.int .i64 n, .int .i64 lo, .int .i64 hi] w fun e w' => e = .returned (.bool false) ∧ w = w' := by
  by_cases h' : lo ≤ n
  · have hd : decide (n ≤ hi) = false := by simp; omega
    go_enter Tryz.func41, Tryz.ntmps41
    go_wp2
    go_ret
    exact ⟨rfl, rfl⟩
  · exact l1In_low n lo hi (by omega) w
end Go.Proofs.YtpfombelhajmlaaGreatDoor
namespace Go.Proofs.YtpfombelhajmlaaGreatDoor
open Go.RowKit
def letterC (c : Nat) : Bool := decide (97 ≤ c ∧ c ≤ 122) || decide (c = 95) || decide (c = 46)
def digitC (c : Nat) : Bool := decide (48 ≤ c ∧ c ≤ 57)
def okAt (l : List UInt8) (k : Nat) : Bool := letterC (l.getD k 0).toNat || (digitC (l.getD k 0).toNat && decide (k ≠ 0))
def nameOk (l : List UInt8) : Bool := decide (1 ≤ l.length ∧ l.length ≤ 8) && (List.range l.length).all (okAt l)
theorem nameOk_iff (l : List UInt8) : nameOk l = true ↔ (1 ≤ l.length ∧ l.length ≤ 8) ∧ ∀ k, k < l.length → okAt l k = true := by
  simp [nameOk, List.all_eq_true]
theorem nameOk_bad {l : List UInt8} {k : Nat} (hk : k < l.length) (h : okAt l k = false) : nameOk l = false := by
  rcases hb : nameOk l with _ | _
  · rfl
  · rw [nameOk_iff] at hb
    rw [hb.2 k hk] at h; cases h
theorem nameOk_all {l : List UInt8} (h : ∀ k, k < l.length → okAt l k = true) : nameOk l = decide (1 ≤ l.length ∧ l.length ≤ 8) := by
  have : (List.range l.length).all (okAt l) = true := by simp [List.all_eq_true]; exact h
  simp [nameOk, this]
theorem all_next {l : List UInt8} {k : Nat} (h : ∀ j, j < k → okAt l j = true) (hk : okAt l k = true) : ∀ j, j < k + 1 → okAt l j = true := by
  intro j hj
  rcases Nat.lt_or_ge j k with h1 | h1
  · exact h j h1
  · have : j = k := by omega
    subst this; exact hk
theorem toList_loop (s : ByteArray) : ∀ (n i : Nat) (r : List UInt8), n = s.size - i → ByteArray.toList.loop s i r = r.reverse ++ s.data.toList.drop i := by
  intro n
  induction n with
  | zero =>
    intro i r h
    unfold ByteArray.toList.loop
    rw [if_neg (by omega), List.drop_eq_nil_of_le (by simp; omega)]; simp
  | succ n ih =>
    intro i r h
    unfold ByteArray.toList.loop
    rw [if_pos (by omega), ih _ _ (by omega)]
    have hi : i < s.data.toList.length := by simp; omega
    rw [List.drop_eq_getElem_cons hi]
    have hi' : i < s.size := by omega
    have : s.get! i = s.data.toList[i] := by simp [ByteArray.get!, hi']
    rw [this]; simp
theorem toList_data (s : ByteArray) : s.toList = s.data.toList := by
  unfold ByteArray.toList; rw [toList_loop s s.size 0 [] (by omega)]; simp
theorem str_ne {u s : ByteArray} (h : u ≠ s) : (u.toList == s.toList) = false := by
  rw [toList_data, toList_data]
  rcases hb : (u.data.toList == s.data.toList) with _ | _
  · rfl
  · exfalso; apply h
    have := eq_of_beq hb
    exact ByteArray.ext (Array.toList_inj.1 this)
theorem byte_at (s : ByteArray) (k : Nat) (h : k < s.size) : s.data.toList.getD k 0 = s[k] := by
  have h' : k < s.data.toList.length := by simpa using h
  rw [List.getD, List.getElem?_eq_getElem h']
  rfl
end Go.Proofs.YtpfombelhajmlaaGreatDoor
namespace Go.Proofs.YtpfombelhajmlaaGreatDoor
open Go.RowKit
def textAt (l : List Int) (n : Int) : Option (List Int) :=
  if 0 ≤ n ∧ n < l.length ∧ (0 : Int) ∈ l.drop n.toNat then some ((l.drop n.toNat).takeWhile fun x => decide (x ≠ 0)) else none
def firstAt (l : List Int) (s : ByteArray) : Nat → Nat → Int
  | _, 0 => -1
  | k, n + 1 => if (textAt l k).map strOfNums = some s then k else firstAt l s (k + 1) n
end Go.Proofs.YtpfombelhajmlaaGreatDoor
namespace Go.Proofs.YtpfombelhajmlaaGreatDoor
open Go.RowKit
def ltS (a b : ByteArray) : Bool := Op.bytesLess a.toList b.toList
def posS (l : List ByteArray) (s : ByteArray) : Nat := (l.takeWhile fun x => ltS x s).length
def insertS (l : List ByteArray) (s : ByteArray) : List ByteArray := if l[posS l s]? = some s then l else l.take (posS l s) ++ s :: l.drop (posS l s)
end Go.Proofs.YtpfombelhajmlaaGreatDoor
namespace Go.Proofs.YtpfombelhajmlaaGreatDoor
open Go.RowKit
theorem alignValid_1  (w : World) :
    Calls Tryz.prog 62 #[.int .i64 1] w fun e w' => e = .returned (.bool true) ∧ w = w' := by
  go_enter Tryz.func62, Tryz.ntmps62
  go_wp2
  go_ret
  exact ⟨rfl, rfl⟩
theorem alignValid_2  (w : World) :
    Calls Tryz.prog 62 #[.int .i64 2] w fun e w' => e = .returned (.bool true) ∧ w = w' := by
  go_enter Tryz.func62, Tryz.ntmps62
  go_wp2
  go_ret
  exact ⟨rfl, rfl⟩
theorem alignValid_4  (w : World) :
    Calls Tryz.prog 62 #[.int .i64 4] w fun e w' => e = .returned (.bool true) ∧ w = w' := by
  go_enter Tryz.func62, Tryz.ntmps62
  go_wp2
  go_ret
  exact ⟨rfl, rfl⟩
theorem alignValid_8  (w : World) :
    Calls Tryz.prog 62 #[.int .i64 8] w fun e w' => e = .returned (.bool true) ∧ w = w' := by
  go_enter Tryz.func62, Tryz.ntmps62
  go_wp2
  go_ret
  exact ⟨rfl, rfl⟩
theorem alignValid_no (to : Int) (h1 : (to == 1) = false) (h2 : (to == 2) = false) (h4 : (to == 4) = false) (h8 : (to == 8) = false) (w : World) :
    Calls Tryz.prog 62 #[.int .i64 to] w fun e w' => e = .returned (.bool false) ∧ w = w' := by
  go_enter Tryz.func62, Tryz.ntmps62
  go_wp2
  go_ret
  exact ⟨rfl, rfl⟩
end Go.Proofs.YtpfombelhajmlaaGreatDoor
namespace Go.Proofs.YtpfombelhajmlaaGreatDoor
open Go.RowKit
def Has (w : World) (g : Nat) (t : TypeId) (cs : Array Value) : Prop := w.heap[g]? = some (.cells cs t (0, 0))
section
variable {w w' : World} {g : Nat} {t : TypeId} {cs : Array Value}
theorem Has.lt (h : Has w g t cs) : g < w.heap.size := by
  rcases Nat.lt_or_ge g w.heap.size with a | a
  · exact a
  · unfold Has at h; rw [Array.getElem?_eq_none a] at h; cases h
theorem Has.cell (h : Has w g t cs) (i : Nat) : w.cell? ⟨g, i, none⟩ = cs[i]? := cell_of_row w g i cs t (0, 0) h
theorem Has.free (h : Has w g t cs) (i : Nat) : w.frozen? ⟨g, i, none⟩ = false := by
  unfold Has at h; simp [World.frozen?, h]
theorem Has.new (w : World) (t : TypeId) (cs : Array Value) : Has (w.alloc (.cells cs t)) w.heap.size t cs := heap_alloc_new w _
theorem Has.drew (h : Has w g t cs) : Has w.drew g t cs := h
theorem Has.drewN (h : Has w g t cs) (n : Nat) : Has (w.drewN n) g t cs := h
theorem Has.alloc (h : Has w g t cs) (o : Obj) : Has (w.alloc o) g t cs := (Below.heap_alloc w o g h.lt).trans h
theorem Has.put (h : Has w g t cs) (i : Nat) (u : Value) : Has (w.setCell ⟨g, i, none⟩ u) g t (cs.setIfInBounds i u) := by
  unfold Has at h ⊢
  simp [World.setCell, Array.getElem?_modify, h]
theorem Has.away (h : Has w g t cs) {p : Addr} (hp : g ≠ p.block) (u : Value) : Has (w.setCell p u) g t cs := (Below.heap_setCell w p u g hp).trans h
theorem Has.below {B : Nat} (h : Has w g t cs) (hb : Below B w w') (hg : g < B) : Has w' g t cs := (hb.block g hg).trans h
theorem Has.grown {row : Option Nat} (h : Has w g t cs) (hb : w.grownBy w' row) (hg : some g ≠ row) : Has w' g t cs := (hb.block g h.lt hg).trans h
theorem Has.differ {g' : Nat} {t' : TypeId} {cs' : Array Value} (h : Has w g t cs) (h' : Has w g' t' cs') (hne : t ≠ t') : g ≠ g' := by
  rintro rfl
  unfold Has at h h'
  rw [h] at h'
  injection h' with h'
  injection h' with _ ht
  exact hne ht
end
def Ints (w : World) (k : IntKind) (B : Nat) (a : Option Addr) (l : List Int) : Prop :=
  (∀ x ∈ l, (Lit.int k x).wf = true) ∧ (0 < l.length → ∃ b off, a = some ⟨b, off, none⟩ ∧ b < B ∧ ∀ i, i < l.length → w.cell? ⟨b, off + i, none⟩ = some (.int k (l.getD i 0)))
section
variable {w w' : World} {k : IntKind} {B B' : Nat} {a : Option Addr} {l : List Int}
theorem Ints.at_ (h : Ints w k B a l) {i : Nat} (hi : i < l.length) : ∃ b off, a = some ⟨b, off, none⟩ ∧ b < B ∧ w.cell? ⟨b, off + i, none⟩ = some (.int k (l.getD i 0)) := by
  obtain ⟨b, off, ha, hb, hc⟩ := h.2 (by omega)
  exact ⟨b, off, ha, hb, hc i hi⟩
theorem Ints.wfAt (h : Ints w k B a l) {i : Nat} (hi : i < l.length) : (Lit.int k (l.getD i 0)).wf = true := by
  apply h.1
  simp [List.getD, List.getElem?_eq_getElem hi]
theorem Ints.keep (h : Ints w k B a l) (hk : ∀ p : Addr, p.block < B → w'.cell? p = w.cell? p) : Ints w' k B a l :=
  ⟨h.1, fun hn => by
    obtain ⟨b, off, ha, hb, hc⟩ := h.2 hn
    exact ⟨b, off, ha, hb, fun i hi => (hk _ hb).trans (hc i hi)⟩⟩
theorem Ints.more (h : Ints w k B a l) (hB : B ≤ B') : Ints w k B' a l :=
  ⟨h.1, fun hn => by
    obtain ⟨b, off, ha, hb, hc⟩ := h.2 hn
    exact ⟨b, off, ha, by omega, hc⟩⟩
theorem Ints.below (h : Ints w k B a l) (hb : Below B w w') : Ints w' k B a l := h.keep fun _ hp => hb.cell hp
theorem Ints.drewN (h : Ints w k B a l) (n : Nat) : Ints (w.drewN n) k B a l := h
theorem Ints.alloc (h : Ints w k B a l) (hB : B ≤ w.heap.size) (o : Obj) : Ints (w.alloc o) k B a l := h.keep fun p hp => World.cell?_alloc_lt w o p (by omega)
theorem Ints.take (h : Ints w k B a l) (n : Nat) : Ints w k B a (l.take n) :=
  ⟨fun x hx => h.1 x (List.mem_of_mem_take hx), fun hn => by
    rw [List.length_take] at hn
    obtain ⟨b, off, ha, hb, hc⟩ := h.2 (by omega)
    refine ⟨b, off, ha, hb, fun i hi => ?_⟩
    rw [List.length_take] at hi
    rw [hc i (by omega)]
    simp [List.getD, show i < n by omega]⟩
theorem Ints.ofHas {g : Nat} {t : TypeId} {cs : Array Value} (h : Has w g t cs) (hcs : cs = (l.map (Value.int k)).toArray) (hwf : ∀ x ∈ l, (Lit.int k x).wf = true) (hB : g < B) :
    Ints w k B (some ⟨g, 0, none⟩) l :=
  ⟨hwf, fun _ => ⟨g, 0, rfl, hB, fun i hi => by
    rw [h.cell, hcs]
    simp [List.getD, List.getElem?_eq_getElem hi]⟩⟩
end
theorem hidden {p : Prop} (h : p) : Hid p := h
theorem wf_u8 {x : Int} : (Lit.int .u8 x).wf = true ↔ 0 ≤ x ∧ x < 256 := by
  simp [Lit.wf, IntKind.min, IntKind.max, IntKind.signed, IntKind.bits]; omega
theorem below_drewN {B : Nat} {a w : World} (h : Below B a w) (n : Nat) : Below B a (w.drewN n) := ⟨h.os, h.tape, h.output, h.size, h.block⟩
theorem lt_of_cell {w : World} {p : Addr} {v : Value} (h : w.cell? p = some v) : p.block < w.heap.size := by
  rcases Nat.lt_or_ge p.block w.heap.size with a | a
  · exact a
  · simp [World.cell?, Array.getElem?_eq_none a] at h
theorem ints_of_own {w : World} {base : Nat} {v : Value} {k : IntKind} {t : TypeId} {l : List Int} {n : Nat} (hn : n = l.length) (h : w.ownsRow base t 1 v n (l.map (Value.int k))) (hwf : ∀ x ∈ l, (Lit.int k x).wf = true) :
    ∃ a c, v = .slice a l.length c ∧ Ints w k w.heap.size a l := by
  subst hn
  rcases h.2 with ⟨rfl, h0⟩ | ⟨g, cap, cur, rfl, _, hh, _, _, _, hx⟩
  · have : l = [] := List.eq_nil_of_length_eq_zero h0
    subst this
    exact ⟨none, 0, rfl, by simp, by simp⟩
  · refine ⟨_, _, rfl, hwf, fun _ => ⟨g, 0, rfl, Has.lt (t := t) (cs := cur) hh, fun i hi => ?_⟩⟩
    rw [Nat.zero_add, Has.cell (t := t) (cs := cur) hh i, ← Array.getElem?_toList]
    have e : (cur.toList.take (l.length * 1))[i]? = cur.toList[i]? := by rw [List.getElem?_take, if_pos (by omega)]
    rw [← e, hx]
    simp [List.getD, List.getElem?_eq_getElem hi]
theorem only_trans {a b c : World} {row : Option Nat} (h : a.grownBy b row) (k : b.grownBy c row) : a.grownBy c row :=
  ⟨k.os.trans h.os, k.tape.trans h.tape, k.output.trans h.output, Nat.le_trans h.size k.size, fun i hi hn => (k.block i (Nat.lt_of_lt_of_le hi h.size) hn).trans (h.block i hi hn)⟩
theorem only_put' {w : World} {g : Nat} (i : Nat) (u : Value) : w.grownBy (w.setCell ⟨g, i, none⟩ u) (some g) :=
  ⟨rfl, rfl, rfl, by simp [World.setCell], fun k hk hne => Below.heap_setCell w ⟨g, i, none⟩ u k (fun e => hne (by rw [e]))⟩
theorem only_alloc {a b : World} {row : Option Nat} (h : a.grownBy b row) (o : Obj) : a.grownBy (b.alloc o) row :=
  ⟨h.os, h.tape, h.output, Nat.le_trans h.size (by simp), fun i hi hn => (Below.heap_alloc b o i (Nat.lt_of_lt_of_le hi h.size)).trans (h.block i hi hn)⟩
theorem Below.only {a b : World} {g : Nat} {B : Nat} (h : a.grownBy b (some g)) (hB : B ≤ a.heap.size) (hg : B ≤ g) : Below B a b :=
  (Below.refl B a).grown h hB (fun k e => by injection e with e; omega)
theorem ints_of_own' {w : World} {base : Nat} {v : Value} {k : IntKind} {t : TypeId} {l : List Int} (h : w.ownsRow base t 1 v l.length (l.map (Value.int k))) (hwf : ∀ x ∈ l, (Lit.int k x).wf = true) :
    ∃ a c, v = .slice a l.length c ∧ l.length ≤ c ∧ Ints w k w.heap.size a l := by
  obtain ⟨a, c, hv, hi⟩ := ints_of_own rfl h hwf
  refine ⟨a, c, hv, ?_, hi⟩
  rcases h.2 with ⟨hv', h0⟩ | ⟨g, cap, cur, hv', _, _, hc, _⟩
  · omega
  · rw [hv] at hv'; injection hv' with _ _ e; omega
theorem ints_of_own3 {w : World} {base : Nat} {v : Value} {k : IntKind} {t : TypeId} {l : List Int} (h : w.ownsRow base t 1 v l.length (l.map (Value.int k))) (hwf : ∀ x ∈ l, (Lit.int k x).wf = true) :
    ∃ a c, v = .slice a l.length c ∧ l.length ≤ c ∧ c ≤ maxLen ∧ Ints w k w.heap.size a l := by
  obtain ⟨a, c, hv, hc, hi⟩ := ints_of_own' h hwf
  refine ⟨a, c, hv, hc, ?_, hi⟩
  rcases h.2 with ⟨e, _⟩ | ⟨g, cap, cur, e, _, _, _, hm, _⟩
  · rw [hv] at e; injection e with _ _ e; rw [e]; unfold maxLen; omega
  · rw [hv] at e; injection e with _ _ e; rw [e]; exact hm
end Go.Proofs.YtpfombelhajmlaaGreatDoor
namespace Go.Proofs.YtpfombelhajmlaaGreatDoor
open Go.RowKit
end Go.Proofs.YtpfombelhajmlaaGreatDoor

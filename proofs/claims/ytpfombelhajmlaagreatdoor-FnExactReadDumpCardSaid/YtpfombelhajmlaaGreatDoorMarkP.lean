import Derived.Deep.Cut
import Derived.WalkSpells
import Derived.WalkLawsBesides
import Derived.Handy
import Derived.Deep.QuietTactic
import Derived.BigQuiet
import Derived.Deep.OwnRows
import Derived.Test.YtpfombelhajmlaaGreatDoorMarkS
import Derived.Test.YtpfombelhajmlaaGreatDoorRegionV
import Derived.Test.YtpfombelhajmlaaGreatDoorWant4
import Derived.Test.YtpfombelhajmlaaGreatDoorBase
import Derived.Test.YtpfombelhajmlaaGreatDoorRegion
import Derived.Test.YtpfombelhajmlaaGreatDoorDrawN
namespace Go.Proofs.YtpfombelhajmlaaGreatDoor
open Go.RowKit
def digitsOf (x : Nat) (s : ByteArray) : ByteArray := if _ : x = 0 then s else digitsOf (x / 10) (strOfNums [48 + ((x % 10 : Nat) : Int)] ++ s)
termination_by x
decreasing_by omega
def markOf (k : Int) : ByteArray := if k < 1 then ⟨#[109, 48]⟩ else ⟨#[109]⟩ ++ digitsOf k.toNat ⟨#[]⟩
theorem digitsOf_step {x : Int} (s : ByteArray) (hx : 0 < x) : digitsOf x.toNat s = digitsOf (x / 10).toNat (strOfNums [48 + x % 10] ++ s) := by
  obtain ⟨n, rfl⟩ := Int.eq_ofNat_of_zero_le (show 0 ≤ x by omega)
  rw [Int.toNat_natCast, digitsOf, dif_neg (by omega)]
  have e1 : ((n : Int) / 10).toNat = n / 10 := by omega
  have e2 : ((n % 10 : Nat) : Int) = (n : Int) % 10 := by omega
  rw [e1, e2]
set_option maxHeartbeats 1000000 in
theorem markText_of (w : World) (k : Int) (hk0 : 0 ≤ k) (hk : k ≤ 4611686018427387904) : Calls Tryz.prog 46 #[.int .i64 k] w fun e w' => e = .returned (.string (markOf k)) ∧ Below w.heap.size w w' := by
  by_cases hz : k < 1
  · have e : markOf k = ⟨#[109, 48]⟩ := if_pos hz
    rw [e]; clear e
    go_enter Tryz.func46, Tryz.ntmps46
    go_wp2
    go_ret
    exact ⟨rfl, Below.refl _ _⟩
  have hp : 0 < k := by omega
  have he : markOf k = ⟨#[109]⟩ ++ digitsOf k.toNat ⟨#[]⟩ := if_neg hz
  obtain ⟨T, hT⟩ : ∃ T, markOf k = T := ⟨_, rfl⟩
  rw [hT] at he ⊢
  have HE := hidden he
  clear hT he
  go_enter Tryz.func46, Tryz.ntmps46
  go_wp2
  have hcv : ∀ (y : Int) (W : World), (convert 22 9 (.slice (some ⟨W.heap.size, 0, none⟩) 1 1)).run Tryz.prog (W.alloc (.cells #[.int .u8 y] 5)) = .ok (.string (strOfNums [y])) (W.alloc (.cells #[.int .u8 y] 5)) := fun y W =>
    run_convert_bytes_arg (P := Tryz.prog) _ 22 5 Tryz.underlying22 Tryz.underlying5 W.heap.size 0 1 1 [y] rfl (fun i hi => by
      have : i = 0 := by omega
      subst this
      rw [(Has.new W 5 #[.int .u8 y]).cell]
      rfl) 9 Tryz.underlying9
  have HCV := hidden hcv
  clear hcv
  go_loopw [0, 3] (fun m v wr => ∃ (x : Int) (s : ByteArray), m = .int .i64 x ∧ v = .string s ∧ 0 ≤ x ∧ (s.size : Int) + x ≤ k ∧ Hid (digitsOf k.toNat ⟨#[]⟩ = digitsOf x.toNat s) ∧ Below w.heap.size w wr) (fun m _ _ => (intOf m).toNat)
  case atStart => exact ⟨k, ⟨#[]⟩, rfl, rfl, hk0, by simp [ByteArray.size], hidden rfl, Below.refl _ _⟩
  case round =>
    obtain ⟨x, s, rfl, rfl, hx0, hsx, hd, hb⟩ := hrel
    by_cases hx : 0 < x
    · have hcv := HCV.out
      have hy : ¬ 9223372036854775807 < (strOfNums [48 + x % 10]).size + s.size := by rw [strOfNums_size]; simp; omega
      have hz : (strOfNums [48 + x % 10]).size = 1 := by rw [strOfNums_size]; rfl
      have hx1 : x ≤ 4611686018427387904 := by omega
      have HZ := hidden hz
      have HD : Hid (digitsOf k.toNat ⟨#[]⟩ = digitsOf (x / 10).toNat (strOfNums [48 + x % 10] ++ s)) := by show _ = _; rw [hd.out, digitsOf_step s hx]
      clear hz hd
      go_wp2
      go_roundw
      case rel => exact ⟨x / 10, strOfNums [48 + x % 10] ++ s, rfl, rfl, by omega, by rw [ByteArray.size_append, HZ.out]; omega, HD, hb.alloc hb.size _⟩
      case measure => simp [intOf]; omega
    · have hx' : ¬ 0 < x := hx
      have hs1 : (s.size : Int) ≤ 4611686018427387904 := by omega
      have HF : Hid (T = ⟨#[109]⟩ ++ s) := by
        show _ = _
        have : x = 0 := by omega
        subst this
        rw [HE.out, hd.out, digitsOf, dif_pos (by rfl)]
      clear hd
      go_wp2
      go_ret
      exact ⟨show Ending.returned (.string (⟨#[109]⟩ ++ s)) = _ by rw [HF.out], hb⟩
def TextsL (cs : Array Value) (n : Nat) : Prop := n ≤ cs.size ∧ ∀ j, j < n → ∃ s : ByteArray, cs[j]? = some (.string s)
theorem TextsL.put {cs : Array Value} {n : Nat} (h : TextsL cs n) (k : Nat) (s : ByteArray) : TextsL (cs.setIfInBounds k (.string s)) n := by
  refine ⟨by simp [h.1], fun j hj => ?_⟩
  rw [Array.getElem?_setIfInBounds]
  by_cases e : k = j
  · rw [if_pos e, if_pos (by have := h.1; omega)]; exact ⟨s, rfl⟩
  · rw [if_neg e]; exact h.2 j hj
def MarkedTo (cs : Array Value) (k : Int) (n j : Nat) : Prop := TextsL cs n ∧ ∀ i, i < j → cs[i]? = some (.string (markOf (k + i)))
theorem MarkedTo.next {cs : Array Value} {k : Int} {n j : Nat} (h : MarkedTo cs k n j) (hj : j < n) : MarkedTo (cs.setIfInBounds j (.string (markOf (k + j)))) k n (j + 1) := by
  refine ⟨h.1.put j _, fun i hi => ?_⟩
  rw [Array.getElem?_setIfInBounds]
  by_cases e : j = i
  · subst e; rw [if_pos rfl, if_pos (by have := h.1.1; omega)]
  · rw [if_neg e]; exact h.2 i (by omega)
end Go.Proofs.YtpfombelhajmlaaGreatDoor
namespace Go.Proofs.YtpfombelhajmlaaGreatDoor
open Go.RowKit
structure Mk (lo hi : Nat) (w w' : World) : Prop where
  os : w'.os = w.os
  tape : w'.tape = w.tape
  output : w'.output = w.output
  size : w.heap.size ≤ w'.heap.size
  block : ∀ b, b < w.heap.size → (b < lo ∨ hi ≤ b) → w'.heap[b]? = w.heap[b]?
  shape : ∀ b t cs, Has w b t cs → ∃ cs', Has w' b t cs' ∧ cs'.size = cs.size
section
variable {lo hi : Nat} {w w' w'' : World}
theorem Mk.refl (w : World) : Mk lo hi w w := ⟨rfl, rfl, rfl, Nat.le_refl _, fun _ _ _ => rfl, fun _ _ cs h => ⟨cs, h, rfl⟩⟩
theorem Mk.trans (h : Mk lo hi w w') (h' : Mk lo hi w' w'') : Mk lo hi w w'' :=
  ⟨h'.os.trans h.os, h'.tape.trans h.tape, h'.output.trans h.output, Nat.le_trans h.size h'.size, fun b hb ho => (h'.block b (Nat.lt_of_lt_of_le hb h.size) ho).trans (h.block b hb ho), fun b t cs hh => by
    obtain ⟨c1, h1, e1⟩ := h.shape b t cs hh
    obtain ⟨c2, h2, e2⟩ := h'.shape b t c1 h1
    exact ⟨c2, h2, e2.trans e1⟩⟩
theorem Mk.cell (h : Mk lo hi w w') {p : Addr} (hb : p.block < w.heap.size) (ho : p.block < lo ∨ hi ≤ p.block) : w'.cell? p = w.cell? p := World.cell?_of_block (h.block p.block hb ho)
end
def KeptX (c : Array Value) (n : Nat) (l : List Sp) : Prop := c.size = n * 6 ∧ ∀ i y, l[i]? = some y → c[i * 6 + 3]? = some (.slice y.a1 y.s.bytes.length y.c1) ∧ c[i * 6 + 5]? = some (.slice y.a2 y.s.fixs.length y.c2)
theorem KeptX.put {c : Array Value} {n : Nat} {l : List Sp} (h : KeptX c n l) (k r : Nat) (hr : r < 6) (h3 : r ≠ 3) (h5 : r ≠ 5) (u : Value) : KeptX (c.setIfInBounds (k * 6 + r) u) n l := by
  refine ⟨by rw [Array.size_setIfInBounds]; exact h.1, fun i y hi => ?_⟩
  obtain ⟨q3, q5⟩ := h.2 i y hi
  exact ⟨by rw [Array.getElem?_setIfInBounds, if_neg (by omega)]; exact q3, by rw [Array.getElem?_setIfInBounds, if_neg (by omega)]; exact q5⟩
end Go.Proofs.YtpfombelhajmlaaGreatDoor
namespace Go.Proofs.YtpfombelhajmlaaGreatDoor
open Go.RowKit
set_option maxHeartbeats 1000000 in
theorem eqStringS_yes (w : World) (B1 B2 : Nat) (a1 a2 : Option Addr) (c1 c2 n : Nat) (ss : List ByteArray) (hn : n = ss.length) (h1 : Vals w B1 a1 (ss.map Value.string)) (h2 : Vals w B2 a2 (ss.map Value.string)) (hlen : n ≤ 9223372036854775807) :
    Calls Tryz.prog 19 #[.slice a1 n c1, .slice a2 n c2] w fun e w' => e = .returned (.bool true) ∧ ∃ n, w' = w.drewN n := by
  have HL := hidden hn
  clear hn
  go_enter Tryz.func19, Tryz.ntmps19
  go_wp2
  go_loopw [5] (fun i wr => ∃ k : Nat, k ≤ n ∧ i = .int .i64 k ∧ ∃ q, wr = w.drewN q) (fun i _ => n - (intOf i).toNat)
  case atStart => exact ⟨0, Nat.zero_le _, rfl, 0, rfl⟩
  case round =>
    obtain ⟨k, hk, rfl, q, rfl⟩ := hrel
    by_cases hlt : k < n
    · have hll : k < (ss.map Value.string).length := by rw [List.length_map, ← HL.out]; exact hlt
      obtain ⟨b1, o1, rfl, _, e1⟩ := h1.at_ hll
      obtain ⟨b2, o2, rfl, _, e2⟩ := h2.at_ hll
      obtain ⟨x, hx⟩ : ∃ x, (ss.map Value.string)[k] = .string x := ⟨_, List.getElem_map ..⟩
      rw [hx] at e1 e2
      clear hx h1 h2 hll
      have hi : (k : Int) < (n : Int) := by omega
      go_wp2
      go_quiet (fail)
      go_wp2
      go_roundw
      case rel => exact ⟨k + 1, by omega, by go_num, _, rfl⟩
      case measure => simp [intOf]; omega
    · have hi : ¬ (k : Int) < (n : Int) := by omega
      go_wp2
      go_ret
      exact ⟨rfl, _, rfl⟩
end Go.Proofs.YtpfombelhajmlaaGreatDoor
namespace Go.Proofs.YtpfombelhajmlaaGreatDoor
open Go.RowKit
def RowS (W : World) (lo : Nat) (a : Option Addr) (S : List ByteArray) : Prop :=
  0 < S.length → ∃ (g : Nat) (cs : Array Value), a = some ⟨g, 0, none⟩ ∧ lo ≤ g ∧ Has W g 9 cs ∧ S.length ≤ cs.size ∧ ∀ (i : Nat) (s : ByteArray), S[i]? = some s → cs[i]? = some (Value.string s)
theorem RowS.below {W W' : World} {lo : Nat} {a : Option Addr} {S : List ByteArray} (h : RowS W lo a S) (hb : Below W.heap.size W W') : RowS W' lo a S := fun hn => by
  obtain ⟨g, cs, h1, h2, h3, h4, h5⟩ := h hn
  exact ⟨g, cs, h1, h2, h3.below hb h3.lt, h4, h5⟩
theorem RowS.mk {W W' : World} {lo l h' : Nat} {a : Option Addr} {S : List ByteArray} (h : RowS W lo a S) (hm : Mk l h' W W') (hl : h' ≤ lo) : RowS W' lo a S := fun hn => by
  obtain ⟨g, cs, h1, h2, h3, h4, h5⟩ := h hn
  exact ⟨g, cs, h1, h2, (hm.block g h3.lt (.inr (by omega))).trans h3, h4, h5⟩
theorem RowS.drewN {W : World} {lo : Nat} {a : Option Addr} {S : List ByteArray} (h : RowS W lo a S) (n : Nat) : RowS (W.drewN n) lo a S := h
theorem RowS.vals {W : World} {lo : Nat} {a : Option Addr} {S : List ByteArray} (h : RowS W lo a S) : Vals W W.heap.size a (S.map Value.string) := fun hn => by
  obtain ⟨g, cs, h1, h2, h3, h4, h5⟩ := h (by simpa using hn)
  refine ⟨g, 0, h1, h3.lt, fun i v hv => ?_⟩
  rw [List.getElem?_map] at hv
  rcases hs : S[i]? with _ | s
  · rw [hs] at hv; cases hv
  · rw [hs] at hv
    injection hv with hv
    rw [Nat.zero_add, h3.cell i, h5 i s hs, hv]
def RowM (W : World) (lo : Nat) (a : Option Addr) (n : Nat) : Prop :=
  0 < n → ∃ g, a = some ⟨g, 0, none⟩ ∧ lo ≤ g ∧ g < W.heap.size ∧ ∀ i, i < n → W.cell? ⟨g, i, none⟩ = some (.string (markOf (1 + i)))
theorem RowM.below {W W' : World} {lo : Nat} {a : Option Addr} {n : Nat} (h : RowM W lo a n) (hb : Below W.heap.size W W') : RowM W' lo a n := fun hn => by
  obtain ⟨g, h1, h2, h3, h4⟩ := h hn
  exact ⟨g, h1, h2, Nat.lt_of_lt_of_le h3 hb.size, fun i hi => (hb.cell (by show g < _; exact h3)).trans (h4 i hi)⟩
theorem RowM.drewN {W : World} {lo : Nat} {a : Option Addr} {n : Nat} (h : RowM W lo a n) (q : Nat) : RowM (W.drewN q) lo a n := h
end Go.Proofs.YtpfombelhajmlaaGreatDoor

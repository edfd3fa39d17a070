import Derived.Test.YtpfombelhajmlaaGreatDoorSecs
import Derived.Test.YtpfombelhajmlaaGreatDoorObjV
import Derived.Test.YtpfombelhajmlaaGreatDoorInsertS
import Derived.Test.YtpfombelhajmlaaGreatDoorMem
namespace Go.Proofs.YtpfombelhajmlaaGreatDoor
open Go.RowKit
def I64 (n : Int) : Prop := -9223372036854775808 ≤ n ∧ n ≤ 9223372036854775807
structure Sx.fits (s : Sx) : Prop where
  name : s.name.size ≤ maxLen
  kind : I64 s.kind
  align : I64 s.align
  size : I64 s.size
  bytes : s.bytes.length ≤ 9223372036854775807
  count : s.fixs.length ≤ 9223372036854775807
  fixs : ∀ f ∈ s.fixs, I64 f.pl ∧ I64 f.kind ∧ I64 f.to ∧ I64 f.add
def WantSectionSize : Prop := ∀ (w : World) (B : Nat) (s : Sx) (a1 : Option Addr) (c1 : Nat) (a2 : Option Addr) (c2 : Nat), Ints w .u8 B a1 s.bytes → Fixs w B a2 s.fixs → B ≤ w.heap.size → s.fits →
  Calls Tryz.prog 56 #[s.agg a1 c1 a2 c2] w fun e w' => e = .returned (.int .i64 s.long) ∧ Below w.heap.size w w'
def WantSectionValid : Prop := ∀ (w : World) (B : Nat) (s : Sx) (many : Int) (a1 : Option Addr) (c1 : Nat) (a2 : Option Addr) (c2 : Nat), Ints w .u8 B a1 s.bytes → Fixs w B a2 s.fixs → B ≤ w.heap.size → s.fits → I64 many →
  Calls Tryz.prog 89 #[s.agg a1 c1 a2 c2, .int .i64 many] w fun e w' => e = .returned (.bool (sectOk s many)) ∧ Below w.heap.size w w'
end Go.Proofs.YtpfombelhajmlaaGreatDoor
namespace Go.Proofs.YtpfombelhajmlaaGreatDoor
open Go.RowKit
set_option maxHeartbeats 1000000 in
theorem eqObject_yes (w : World) (B1 B2 : Nat) (a1 a2 b1 b2 : Option Addr) (c1 c2 d1 d2 n m : Nat) (l1 l2 : List Sp) (ms : List Sm) (he : l1.map Sp.s = l2.map Sp.s) (hn : n = l1.length) (hm : m = ms.length) (h1 : Sects w B1 a1 l1) (h2 : Syms w B1 a2 ms) (h3 : Sects w B2 b1 l2) (h4 : Syms w B2 b2 ms) (hB1 : B1 ≤ w.heap.size) (hB2 : B2 ≤ w.heap.size)
    (hlen : n ≤ 9223372036854775807) (hlem : m ≤ 9223372036854775807) (hl : ∀ y ∈ l1, y.s.lens) :
    Calls Tryz.prog 18 #[.agg #[.slice a1 n c1, .slice a2 m c2], .agg #[.slice b1 n d1, .slice b2 m d2]] w fun e w' => e = .returned (.bool true) ∧ Below w.heap.size w w' := by
  have hbA : Below w.heap.size w ((w.alloc (.cells #[.slice a1 n c1, .slice a2 m c2] 26)).alloc (.cells #[.slice b1 n d1, .slice b2 m d2] 26)) := ((Below.refl _ _).alloc (Nat.le_refl _) _).alloc (by simp) _
  have H1 := hidden (eqSectionS_yes ((w.alloc (.cells #[.slice a1 n c1, .slice a2 m c2] 26)).alloc (.cells #[.slice b1 n d1, .slice b2 m d2] 26)) B1 B2 a1 b1 c1 d1 n l1 l2 he hn (h1.below (hbA.mono hB1)) (h3.below (hbA.mono hB2)) (Nat.le_trans hB1 hbA.size) (Nat.le_trans hB2 hbA.size) hlen hl)
  have H2 := hidden (fun (W : World) (hW : Below w.heap.size w W) => eqSymbolS_yes W B1 B2 a2 b2 c2 d2 m ms hm (h2.below (hW.mono hB1)) (h4.below (hW.mono hB2)) (Nat.le_trans hB1 hW.size) (Nat.le_trans hB2 hW.size) hlem)
  have HB := hidden hbA
  clear he hn hm h1 h2 h3 h4 hl hbA
  go_enter Tryz.func18, Tryz.ntmps18
  go_wp2_with fail
  refine H1.out.mono ?_
  clear H1
  rintro e w2 ⟨rfl, hb2⟩
  have hb12 : Below w.heap.size w w2 := HB.out.trans (hb2.mono HB.out.size)
  have q1 : w2.cell? ⟨w.heap.size, 1, none⟩ = some (.slice a2 m c2) := (hb2.cell (by simp; omega)).trans (((Has.new w 26 _).alloc _).cell 1)
  have q2 : w2.cell? ⟨w.heap.size + 1, 1, none⟩ = some (.slice b2 m d2) := (hb2.cell (by simp)).trans (by simp)
  clear hb2
  go_wp2_with fail
  refine (H2.out w2 hb12).mono ?_
  clear H2
  rintro e w3 ⟨rfl, hb3⟩
  go_wp2_with fail
  go_ret
  exact ⟨rfl, hb12.trans (hb3.mono hb12.size)⟩
end Go.Proofs.YtpfombelhajmlaaGreatDoor
namespace Go.Proofs.YtpfombelhajmlaaGreatDoor
open Go.RowKit
def gives (m : Sm) : Bool := decide (m.loc ≠ -1) && decide (m.bind ≠ 0)
end Go.Proofs.YtpfombelhajmlaaGreatDoor
namespace Go.Proofs.YtpfombelhajmlaaGreatDoor
open Go.RowKit
structure Sm.fits (s : Sm) : Prop where
  name : s.name.size ≤ maxLen
  bind : I64 s.bind
  loc : I64 s.loc
  value : I64 s.value
theorem Sx.fits.lens {s : Sx} (h : s.fits) : s.lens := ⟨h.name, h.bytes, h.count⟩
theorem fits_same {l l' : List Sp} (h : l'.map Sp.s = l.map Sp.s) (hf : ∀ y ∈ l, y.s.fits) : ∀ y ∈ l', y.s.fits := fun y hy => by
  have hm : y.s ∈ l.map Sp.s := by rw [← h]; exact List.mem_map_of_mem hy
  obtain ⟨z, hz, e⟩ := List.mem_map.1 hm
  rw [← e]; exact hf z hz
def WantSymbolValid : Prop := ∀ (w : World) (B : Nat) (m : Sm) (a : Option Addr) (c : Nat) (l : List Sp), Sects w B a l → B ≤ w.heap.size → l.length ≤ 9223372036854775807 → m.fits → (∀ y ∈ l, y.s.fits) →
  Calls Tryz.prog 90 #[m.agg, .slice a l.length c] w fun e w' => e = .returned (.bool (symOk m (l.map Sp.s))) ∧ Below w.heap.size w w'
def FreshS (w : World) (S : List ByteArray) (e : Ending) (w' : World) : Prop :=
  ∃ (a : Option Addr) (c : Nat), e = .returned (.slice a S.length c) ∧ (0 < S.length → ∃ (g : Nat) (cs : Array Value), a = some ⟨g, 0, none⟩ ∧ w.heap.size ≤ g ∧ Has w' g 9 cs ∧ S.length ≤ cs.size ∧ ∀ (i : Nat) (s : ByteArray), S[i]? = some s → cs[i]? = some (Value.string s)) ∧ Below w.heap.size w w'
end Go.Proofs.YtpfombelhajmlaaGreatDoor

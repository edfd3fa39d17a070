import Derived.Test.YtpfombelhajmlaaGreatDoorSecs
import Derived.Test.YtpfombelhajmlaaGreatDoorObjV
import Derived.Test.YtpfombelhajmlaaGreatDoorInsertS
import Derived.Test.YtpfombelhajmlaaGreatDoorMem
namespace Go.Proofs.YtpfombelhajmlaaGreatDoor
open Go.RowKit
def I64 (n : Int) : Prop := -9223372036854775808 ≤ n ∧ n ≤ 9223372036854775807
structure Sx.fits (s : Sx) : Prop where
  name : s.name.size ≤ maxLen
  kind : I64 s.kind
  align : I64 s.align
  size : I64 s.size
  bytes : s.bytes.length ≤ 9223372036854775807
  count : s.fixs.length ≤ 9223372036854775807
  fixs : ∀ f ∈ s.fixs, I64 f.pl ∧ I64 f.kind ∧ I64 f.to ∧ I64 f.add
def WantSectionSize : Prop := ∀ (w : World) (B : Nat) (s : Sx) (a1 : Option Addr) (c1 : Nat) (a2 : Option Addr) (c2 : Nat), Ints w .u8 B a1 s.bytes → Fixs w B a2 s.fixs → B ≤ w.heap.size → s.fits →
  Calls Tryz.prog 56 #[s.agg a1 c1 a2 c2] w fun e w' => e = .returned (.int .i64 s.long) ∧ Below w.heap.size w w'
def WantSectionValid : Prop := ∀ (w : World) (B : Nat) (s : Sx) (many : Int) (a1 : Option Addr) (c1 : Nat) (a2 : Option Addr) (c2 : Nat), Ints w .u8 B a1 s.bytes → Fixs w B a2 s.fixs → B ≤ w.heap.size → s.fits → I64 many →
  Calls Tryz.prog 89 #[s.agg a1 c1 a2 c2, .int .i64 many] w fun e w' => e = .returned (.bool (sectOk s many)) ∧ Below w.heap.size w w'
end Go.Proofs.YtpfombelhajmlaaGreatDoor
namespace Go.Proofs.YtpfombelhajmlaaGreatDoor
open Go.RowKit
end Go.Proofs.YtpfombelhajmlaaGreatDoor
namespace Go.Proofs.YtpfombelhajmlaaGreatDoor
open Go.RowKit
def gives (m : Sm) : Bool := decide (m.loc ≠ -1) && decide (m.bind ≠ 0)
end Go.Proofs.YtpfombelhajmlaaGreatDoor
namespace Go.Proofs.YtpfombelhajmlaaGreatDoor
open Go.RowKit
structure Sm.fits (s : Sm) : Prop where
  name : s.name.size ≤ maxLen
  bind : I64 s.bind
  loc : I64 s.loc
  value : I64 s.value
theorem Sx.fits.lens {s : Sx} (h : s.fits) : s.lens := ⟨h.name, h.bytes, h.count⟩
def WantSymbolValid : Prop := ∀ (w : World) (B : Nat) (m : Sm) (a : Option Addr) (c : Nat) (l : List Sp), Sects w B a l → B ≤ w.heap.size → l.length ≤ 9223372036854775807 → m.fits → (∀ y ∈ l, y.s.fits) →
  Calls Tryz.prog 90 #[m.agg, .slice a l.length c] w fun e w' => e = .returned (.bool (symOk m (l.map Sp.s))) ∧ Below w.heap.size w w'
def FreshS (w : World) (S : List ByteArray) (e : Ending) (w' : World) : Prop :=
  ∃ (a : Option Addr) (c : Nat), e = .returned (.slice a S.length c) ∧ (0 < S.length → ∃ (g : Nat) (cs : Array Value), a = some ⟨g, 0, none⟩ ∧ w.heap.size ≤ g ∧ Has w' g 9 cs ∧ S.length ≤ cs.size ∧ ∀ (i : Nat) (s : ByteArray), S[i]? = some s → cs[i]? = some (Value.string s)) ∧ Below w.heap.size w w'
end Go.Proofs.YtpfombelhajmlaaGreatDoor

import Derived.Test.YtpfombelhajmlaaGreatDoorWriteS
import Derived.Test.YtpfombelhajmlaaGreatDoorGetHd
namespace Go.Proofs.YtpfombelhajmlaaGreatDoor
open Go.RowKit
def by1 (b : List Int) (n : Int) : Int := max 0 (getVal b n 1)
def by2 (b : List Int) (n : Int) : Int := getVal b n 2
def nameOf (t : List Int) (n : Int) : ByteArray := match textAt t n with | some s => strOfNums s | none => ⟨#[]⟩
def rdFix (b : List Int) (fix : Int) : Fx := ⟨by1 b fix, by1 b (fix + 1), by1 b (fix + 2), by2 b (fix + 3) - 1000⟩
def rdFixs (b : List Int) (names : Int) : Nat → Int → List Fx
  | 0, _ => []
  | j + 1, fix => if fix + 5 ≤ names then rdFix b fix :: rdFixs b names j (fix + 5) else []
def rdSecs (b t : List Int) (names : Int) : Nat → Int → Int → Int → Option (List Sx)
  | 0, _, _, _ => some []
  | n + 1, fr, at_, fix =>
    if by1 b (fr + 2) = 3 then (rdSecs b t names n (fr + 6) at_ (fix + 5 * ((rdFixs b names (by1 b (fr + 5)).toNat fix).length : Int))).map fun r => ⟨nameOf t (by2 b fr), by1 b (fr + 2), by1 b (fr + 3), [], by1 b (fr + 4), rdFixs b names (by1 b (fr + 5)).toNat fix⟩ :: r
    else if (b.length : Int) - at_ < by1 b (fr + 4) then none
    else (rdSecs b t names n (fr + 6) (at_ + by1 b (fr + 4)) (fix + 5 * ((rdFixs b names (by1 b (fr + 5)).toNat fix).length : Int))).map fun r => ⟨nameOf t (by2 b fr), by1 b (fr + 2), by1 b (fr + 3), (b.drop at_.toNat).take (by1 b (fr + 4)).toNat, 0, rdFixs b names (by1 b (fr + 5)).toNat fix⟩ :: r
def rdSym (b t : List Int) (fr : Int) : Sm := ⟨nameOf t (by2 b fr), by1 b (fr + 2), by1 b (fr + 3) - 2, by2 b (fr + 4)⟩
def rdSyms (b t : List Int) : Nat → Int → List Sm
  | 0, _ => []
  | n + 1, fr => rdSym b t fr :: rdSyms b t n (fr + 6)
def parse (b : List Int) : Option (List Sx × List Sm) :=
  if isHd b = false ∨ (b.length : Int) < 10 + 6 * (getHd b).sec + 6 * (getHd b).sym + 5 * (getHd b).fix + (getHd b).nam then none
  else (rdSecs b ((b.drop (10 + 6 * (getHd b).sec + 6 * (getHd b).sym + 5 * (getHd b).fix).toNat).take (getHd b).nam.toNat) (10 + 6 * (getHd b).sec + 6 * (getHd b).sym + 5 * (getHd b).fix) (getHd b).sec.toNat 10
    (10 + 6 * (getHd b).sec + 6 * (getHd b).sym + 5 * (getHd b).fix + (getHd b).nam) (10 + 6 * (getHd b).sec + 6 * (getHd b).sym)).map fun ss =>
      (ss, rdSyms b ((b.drop (10 + 6 * (getHd b).sec + 6 * (getHd b).sym + 5 * (getHd b).fix).toNat).take (getHd b).nam.toNat) (getHd b).sym.toNat (10 + 6 * (getHd b).sec))
def namesX (ss : List Sx) (ms : List Sm) : List ByteArray := ss.map Sx.name ++ ms.map Sm.name
def secX (t : List Int) (s : Sx) : List Int := putList (placeIn t s.name) 2 ++ [s.kind, s.align, s.long, (s.fixs.length : Int)]
def manyX (ss : List Sx) : Nat := (ss.map fun s => s.fixs.length).sum
def wobj (ss : List Sx) (ms : List Sm) : List Int :=
  if objOk ss ms then
    putHd ⟨ss.length, ms.length, manyX ss, (nameTab (namesX ss ms)).length⟩ ++ (ss.flatMap (secX (nameTab (namesX ss ms))) ++ (ms.flatMap (symBytes (nameTab (namesX ss ms))) ++ ((ss.flatMap fun s => s.fixs.flatMap fixBytes) ++ (nameTab (namesX ss ms) ++ ss.flatMap Sx.bytes)))) else []
def rd (b : List Int) : Option (List Sx × List Sm) :=
  match parse b with
  | some (ss, ms) => if objOk ss ms && decide (wobj ss ms = b) then some (ss, ms) else none
  | none => none
end Go.Proofs.YtpfombelhajmlaaGreatDoor

/-
  This program calls none of the functions of the library whose contracts are laid here at other programs.
-/
import Derived.Test.YtiocchmlmcoieaaProg

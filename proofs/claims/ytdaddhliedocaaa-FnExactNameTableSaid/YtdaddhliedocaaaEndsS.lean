/-
  Contract of spec.l2Ends.
-/
import Derived.Test.YtdaddhliedocaaaTabP
import Derived.Test.YtdaddhliedocaaaPlain
import Derived.Test.YtdaddhliedocaaaRows
import Derived.WalkSpells
import Derived.WalkLawsBesides
import Derived.Handy
import Derived.Test.YtdaddhliedocaaaMem
namespace Go.Proofs.Ytdaddhliedocaaa
open Go.RowKit

theorem l2Ends_any (a b : ByteArray) (ha : a.size ≤ maxLen) (hb : b.size ≤ maxLen) (w : World) :
    Calls Try.prog 47 #[.string a, .string b] w fun e w' => e = .returned (.bool (endsS a b)) ∧ w' = w := by
  have ha' : a.size ≤ 9223372036854775807 := by unfold maxLen at ha; omega
  have hb' : b.size ≤ 9223372036854775807 := by unfold maxLen at hb; omega
  clear ha hb
  by_cases hs : b.size ≤ a.size
  · have hs' : (b.size : Int) ≤ (a.size : Int) := by omega
    obtain ⟨c, hc⟩ : ∃ c, a.extract (a.size - b.size) a.size = c := ⟨_, rfl⟩
    have hsl : ∀ W : World, (Instr.slice 9 (.string a) (some (.int .i64 ((a.size : Int) - (b.size : Int)))) none none).run Try.prog W = .ok (.string c) W := fun W => by
      rw [run_slice_string_l (P := Try.prog) (w := W) 9 a Try.underlying9 .i64 _ (by omega) (by omega), ← hc]
      congr 2
      congr 1
      omega
    by_cases he : c = b
    · have h1 : endsS a b = true := by simp [endsS, hs, hc, he]
      have HE := hidden h1
      have HSL := hidden hsl
      subst he
      have hsl := HSL.out
      clear h1 HSL hc
      go_enter Try.func47, Try.ntmps47
      go_wp2
      go_ret
      exact ⟨ret_bool HE.out.symm, rfl⟩
    · have h1 : endsS a b = false := by simp [endsS, hc, he]
      have HE := hidden h1
      have hne := str_ne he
      clear h1 hc he
      go_enter Try.func47, Try.ntmps47
      go_wp2
      go_ret
      exact ⟨ret_bool HE.out.symm, rfl⟩
  · have hs' : ¬ (b.size : Int) ≤ (a.size : Int) := by omega
    have he : endsS a b = false := by simp [endsS, hs]
    have HE := hidden he
    clear he
    go_enter Try.func47, Try.ntmps47
    go_wp2
    go_ret
    exact ⟨ret_bool HE.out.symm, rfl⟩

end Go.Proofs.Ytdaddhliedocaaa

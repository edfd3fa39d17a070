/-
  The walk of FnFixupWide, over what is wanted of the program.
-/
import Derived.Test.YtelihledjjeeaaaWant3
import Derived.Test.YtelihledjjeeaaaCame
import Derived.Test.YtelihledjjeeaaaDraw
import Derived.Test.YtelihledjjeeaaaAlign
namespace Go.Proofs.Ytelihledjjeeaaa
open Go.RowKit

theorem drawFixupWide_any (w : World) (a : Option Addr) (cap : Nat) (l : List Int) (h : Ints w .u8 w.heap.size a l) (hcap : l.length ≤ cap) (hlen : cap ≤ 9223372036854775807) :
    Calls Try.prog 9 #[.slice a l.length cap] w fun e w' => ∃ x : Int, e = .returned (.int .i64 x) ∧ 0 ≤ x ∧ x < 5 ∧ Below w.heap.size w w' := by
  go_enter Try.func9, Try.ntmps9
  go_wp2_with fail
  refine (l20Open_any w a cap l h hcap hlen).mono ?_
  rintro e w1 ⟨rfl, hr1, hb1⟩
  clear h
  go_wp2_with fail
  refine (pick_any w1 w.heap.size w.heap.size 0 5 hr1 (by omega) (by omega) (by omega)).mono ?_
  rintro e w2 ⟨x, rfl, x0, x1, hr2, hg2⟩
  have hb2 := hb1.grown hg2 hb1.size (by simp)
  clear hr1 hr2 hg2
  go_wp2_with fail
  go_ret
  exact ⟨x, rfl, x0, x1, hb2⟩
set_option maxHeartbeats 1000000 in
theorem law_FixupWide (hW : WantFixupWide) (w : World) (a0 : Option Addr) (len cap : Nat) (h : Came w a0 len cap) :
    Calls Try.prog 3 #[.slice a0 len cap] w fun e w' => e = .returned (.bool true) ∧ Below w.heap.size w w' := by
  obtain ⟨l0, h, rfl, hcap, hmax⟩ := h
  by_cases hbig : 1048576 < l0.length
  · have hd : (1048576 : Int) < (l0.length : Int) := by omega
    go_enter Try.func3, Try.ntmps3
    go_wp2
    go_ret
    exact ⟨rfl, Below.refl _ _⟩
  have hd : ¬ (1048576 : Int) < (l0.length : Int) := by omega
  have HW := hidden (fun (k : Int) (h0 : -1 ≤ k) (h1 : k ≤ 5) W => hW W k ⟨by omega, by omega⟩)
  have HD := hidden (drawFixupWide_any w a0 cap l0 h hcap hmax)
  clear h hW
  go_enter Try.func3, Try.ntmps3
  go_wp2_with fail
  refine HD.out.mono ?_
  clear HD
  rintro e w1 ⟨x, rfl, x0, x1, hb1⟩
  rcases (show x = 0 ∨ x = 1 ∨ x = 2 ∨ x = 3 ∨ x = 4 by omega) with rfl | rfl | rfl | rfl | rfl
  · have HW0 := hidden (show ∀ W, Calls _ _ _ W _ from fun W => HW.out 0 (by omega) (by omega) W)
    have HS0 := hidden (fun W => fixupWide'_any 0 W)
    have e0 : wideOf 0 = 0 := rfl
    rw [e0] at HW0 HS0
    go_wp2_with fail
    refine (HW0.out w1).mono ?_
    rintro e w2 ⟨rfl, hb2⟩
    have hB2 := hb1.trans (hb2.mono hb1.size)
    clear hb2
    go_wp2_with fail
    refine (HS0.out w2).mono ?_
    rintro e w3 ⟨rfl, hb3⟩
    have hB3 := hB2.trans (hb3.mono hB2.size)
    clear hb3 hB2 hb1
    go_wp2_with (go_at_call 12; refine (alive_any _).mono ?_; rintro e _ ⟨rfl, rfl⟩)
    go_ret
    exact ⟨rfl, hB3⟩
  · have HW0 := hidden (show ∀ W, Calls _ _ _ W _ from fun W => HW.out 1 (by omega) (by omega) W)
    have HS0 := hidden (fun W => fixupWide'_any 1 W)
    have e0 : wideOf 1 = 1 := rfl
    rw [e0] at HW0 HS0
    go_wp2_with fail
    refine (HW0.out w1).mono ?_
    rintro e w2 ⟨rfl, hb2⟩
    have hB2 := hb1.trans (hb2.mono hb1.size)
    clear hb2
    go_wp2_with fail
    refine (HS0.out w2).mono ?_
    rintro e w3 ⟨rfl, hb3⟩
    have hB3 := hB2.trans (hb3.mono hB2.size)
    clear hb3 hB2 hb1
    go_wp2_with (go_at_call 12; refine (alive_any _).mono ?_; rintro e _ ⟨rfl, rfl⟩)
    go_ret
    exact ⟨rfl, hB3⟩
  · have HW0 := hidden (show ∀ W, Calls _ _ _ W _ from fun W => HW.out 2 (by omega) (by omega) W)
    have HS0 := hidden (fun W => fixupWide'_any 2 W)
    have e0 : wideOf 2 = 2 := rfl
    rw [e0] at HW0 HS0
    go_wp2_with fail
    refine (HW0.out w1).mono ?_
    rintro e w2 ⟨rfl, hb2⟩
    have hB2 := hb1.trans (hb2.mono hb1.size)
    clear hb2
    go_wp2_with fail
    refine (HS0.out w2).mono ?_
    rintro e w3 ⟨rfl, hb3⟩
    have hB3 := hB2.trans (hb3.mono hB2.size)
    clear hb3 hB2 hb1
    have HW1 := hidden (show ∀ W, Calls _ _ _ W _ from fun W => HW.out 1 (by omega) (by omega) W)
    have e1 : wideOf 1 = 1 := rfl
    rw [e1] at HW1
    go_wp2_with fail
    refine (HW1.out w3).mono ?_
    rintro e w4 ⟨rfl, hb4⟩
    have hB4 := hB3.trans (hb4.mono hB3.size)
    clear hb4 hB3
    go_wp2_with (go_at_call 12; refine (alive_any _).mono ?_; rintro e _ ⟨rfl, rfl⟩)
    go_ret
    exact ⟨rfl, hB4⟩
  · have HW0 := hidden (show ∀ W, Calls _ _ _ W _ from fun W => HW.out 3 (by omega) (by omega) W)
    have HS0 := hidden (fun W => fixupWide'_any 3 W)
    have e0 : wideOf 3 = 4 := rfl
    rw [e0] at HW0 HS0
    go_wp2_with fail
    refine (HW0.out w1).mono ?_
    rintro e w2 ⟨rfl, hb2⟩
    have hB2 := hb1.trans (hb2.mono hb1.size)
    clear hb2
    go_wp2_with fail
    refine (HS0.out w2).mono ?_
    rintro e w3 ⟨rfl, hb3⟩
    have hB3 := hB2.trans (hb3.mono hB2.size)
    clear hb3 hB2 hb1
    have HW1 := hidden (show ∀ W, Calls _ _ _ W _ from fun W => HW.out 2 (by omega) (by omega) W)
    have e1 : wideOf 2 = 2 := rfl
    rw [e1] at HW1
    go_wp2_with fail
    refine (HW1.out w3).mono ?_
    rintro e w4 ⟨rfl, hb4⟩
    have hB4 := hB3.trans (hb4.mono hB3.size)
    clear hb4 hB3
    go_wp2_with (go_at_call 12; refine (alive_any _).mono ?_; rintro e _ ⟨rfl, rfl⟩)
    go_ret
    exact ⟨rfl, hB4⟩
  · have HW0 := hidden (show ∀ W, Calls _ _ _ W _ from fun W => HW.out 4 (by omega) (by omega) W)
    have HS0 := hidden (fun W => fixupWide'_any 4 W)
    have e0 : wideOf 4 = 0 := rfl
    rw [e0] at HW0 HS0
    go_wp2_with fail
    refine (HW0.out w1).mono ?_
    rintro e w2 ⟨rfl, hb2⟩
    have hB2 := hb1.trans (hb2.mono hb1.size)
    clear hb2
    go_wp2_with fail
    refine (HS0.out w2).mono ?_
    rintro e w3 ⟨rfl, hb3⟩
    have hB3 := hB2.trans (hb3.mono hB2.size)
    clear hb3 hB2 hb1
    go_wp2_with (go_at_call 12; refine (alive_any _).mono ?_; rintro e _ ⟨rfl, rfl⟩)
    go_ret
    exact ⟨rfl, hB3⟩
end Go.Proofs.Ytelihledjjeeaaa

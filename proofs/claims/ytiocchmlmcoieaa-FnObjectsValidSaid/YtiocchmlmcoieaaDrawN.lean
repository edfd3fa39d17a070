/-
  Contracts of the draws of names.
-/
import Derived.Test.YtiocchmlmcoieaaRegion
namespace Go.Proofs.Ytiocchmlmcoieaa
open Go.RowKit

theorem Try.info_str : (Try.prog.info? 9).map (fun i => (i.zero, i.size, i.bytes)) = some (some (.string ⟨#[]⟩), 1, 16) := by kernel_rfl

/-- What a draw with a bool leaves. -/
def Odd (w : World) (B g : Nat) (P : Int) (e : Ending) (w' : World) : Prop := ∃ b : Bool, e = .returned (.bool b) ∧ Rd w' B g (P + 1) ∧ w.grownBy w' (some g)
theorem odd_any (w : World) (B g : Nat) (P n : Int) (h : Rd w B g P) (hP : P ≤ 1000000) (hn : 0 ≤ n) (hn' : n ≤ 4294967296) :
    Calls Try.prog 50 #[.pointer (some ⟨g, 0, none⟩), .int .i64 n] w (Odd w B g P) := by
  by_cases hz : n = 0
  · have hfin : Hid (∀ b, Odd w B g P (.returned (.bool b)) w) := fun b => ⟨b, rfl, h.mono (by omega), World.grownBy.refl w _⟩
    subst hz
    clear h
    go_enter Try.func50, Try.ntmps50
    go_wp2
    go_ret
    exact hfin.out _
  · have hp : 0 < n := by omega
    go_enter Try.func50, Try.ntmps50
    go_wp2_with fail
    refine (pick_any w B g P n h hP (by omega) hn').mono ?_
    rintro e w1 ⟨x, rfl, x0, x1, hr, hg⟩
    have hfin : Hid (∀ b, Odd w B g P (.returned (.bool b)) w1) := fun b => ⟨b, rfl, hr, hg⟩
    clear h hr hg
    obtain ⟨b, hb⟩ : ∃ b, (x == n - 1) = b := ⟨_, rfl⟩
    go_wp2_with fail
    go_ret
    exact hfin.out _

/-- What the draw of a name leaves: some short text. -/
def DrawnName (w : World) (B g : Nat) (P : Int) (e : Ending) (w' : World) : Prop := ∃ s : ByteArray, e = .returned (.string s) ∧ s.size ≤ 9 ∧ Rd w' B g (P + 2) ∧ w.grownBy w' (some g)
theorem l20Name_any (w : World) (B g : Nat) (P n : Int) (h : Rd w B g P) (hP : P ≤ 900000) (hn : 0 ≤ n) (hn' : n ≤ 4294967296) :
    Calls Try.prog 81 #[.pointer (some ⟨g, 0, none⟩), .int .i64 n] w (DrawnName w B g P) := by
  go_enter Try.func81, Try.ntmps81
  go_wp2_with fail
  refine (odd_any w B g P n h (by omega) hn hn').mono ?_
  rintro e w1 ⟨b, rfl, hr1, hg1⟩
  clear h
  have s1 := hr1.lt
  rcases b with _ | _
  · go_wp2_with fail
    refine (pick_any _ B g (P + 1) 10 (hr1.alloc _) (by omega) (by omega) (by omega)).mono ?_
    rintro e w2 ⟨x, rfl, x0, x1, hr2, hg2⟩
    obtain ⟨i, rfl⟩ := Int.eq_ofNat_of_zero_le x0
    obtain ⟨s, hs, hs9⟩ := str_read [⟨#[109, 97, 105, 110]⟩, ⟨#[105, 110]⟩, ⟨#[99, 111, 100, 101]⟩, ⟨#[100, 97, 116, 97]⟩, ⟨#[95, 115, 116, 97, 114, 116]⟩, ⟨#[97, 114, 116]⟩, ⟨#[116]⟩, ⟨#[120, 49]⟩, ⟨#[46, 116, 101, 120, 116]⟩, ⟨#[112, 117, 116, 115]⟩] 9 ((Has.new _ _ _).grown hg2 (by simp; omega)) rfl (by decide) i (by simp; omega)
    have hfin : Hid (DrawnName w B g P (.returned (.string s)) w2) := ⟨s, rfl, hs9, hr2.mono (by omega), only_trans (only_alloc hg1 _) hg2⟩
    clear hr1 hg1 hr2 hg2 hs9
    go_wp2_with fail
    go_ret
    exact hfin.out
  · go_wp2_with fail
    refine (pick_any _ B g (P + 1) 6 (hr1.alloc _) (by omega) (by omega) (by omega)).mono ?_
    rintro e w2 ⟨x, rfl, x0, x1, hr2, hg2⟩
    obtain ⟨i, rfl⟩ := Int.eq_ofNat_of_zero_le x0
    obtain ⟨s, hs, hs9⟩ := str_read [⟨#[]⟩, ⟨#[65]⟩, ⟨#[49, 97]⟩, ⟨#[97, 98, 99, 100, 101, 102, 103, 104, 105]⟩, ⟨#[97, 32, 98]⟩, ⟨#[97, 45, 98]⟩] 9 ((Has.new _ _ _).grown hg2 (by simp; omega)) rfl (by decide) i (by simp; omega)
    have hfin : Hid (DrawnName w B g P (.returned (.string s)) w2) := ⟨s, rfl, hs9, hr2.mono (by omega), only_trans (only_alloc hg1 _) hg2⟩
    clear hr1 hg1 hr2 hg2 hs9
    go_wp2_with fail
    go_ret
    exact hfin.out

/-- What the draw of names leaves: some short texts, at most m. -/
def DrawnNames (w : World) (B g : Nat) (P : Int) (m : Nat) (e : Ending) (w' : World) : Prop :=
  ∃ (v : Value) (ss : List ByteArray), e = .returned v ∧ w'.ownsRow w.heap.size 9 1 v ss.length (ss.map Value.string) ∧ (∀ s ∈ ss, s.size ≤ 9) ∧ ss.length ≤ m ∧ Rd w' B g (P + 20) ∧ w.grownBy w' (some g)













































































/-- What the draw of the names of a table leaves. -/
def DrawnTable (w : World) (e : Ending) (w' : World) : Prop :=
  ∃ (v : Value) (ss : List ByteArray), e = .returned v ∧ w'.ownsRow w.heap.size 9 1 v ss.length (ss.map Value.string) ∧ (∀ s ∈ ss, s.size ≤ 9) ∧ ss.length ≤ 41 ∧ Below w.heap.size w w'










































































end Go.Proofs.Ytiocchmlmcoieaa

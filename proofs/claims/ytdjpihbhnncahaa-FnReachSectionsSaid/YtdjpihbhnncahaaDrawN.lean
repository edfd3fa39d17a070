/-
  Contracts of the draws of names.
-/
import Derived.Test.YtdjpihbhnncahaaRegion
namespace Go.Proofs.Ytdjpihbhnncahaa
open Go.RowKit

theorem Try.info_str : (Try.prog.info? 9).map (fun i => (i.zero, i.size, i.bytes)) = some (some (.string ⟨#[]⟩), 1, 16) := by kernel_rfl

/-- What a draw with a bool leaves. -/
def Odd (w : World) (B g : Nat) (P : Int) (e : Ending) (w' : World) : Prop := ∃ b : Bool, e = .returned (.bool b) ∧ Rd w' B g (P + 1) ∧ w.grownBy w' (some g)
theorem odd_any (w : World) (B g : Nat) (P n : Int) (h : Rd w B g P) (hP : P ≤ 1000000) (hn : 0 ≤ n) (hn' : n ≤ 4294967296) :
    Calls Try.prog 85 #[.pointer (some ⟨g, 0, none⟩), .int .i64 n] w (Odd w B g P) := by
  by_cases hz : n = 0
  · have hfin : Hid (∀ b, Odd w B g P (.returned (.bool b)) w) := fun b => ⟨b, rfl, h.mono (by omega), World.grownBy.refl w _⟩
    subst hz
    clear h
    go_enter Try.func85, Try.ntmps85
    go_wp2
    go_ret
    exact hfin.out _
  · have hp : 0 < n := by omega
    go_enter Try.func85, Try.ntmps85
    go_wp2_with fail
    refine (pick_any w B g P n h hP (by omega) hn').mono ?_
    rintro e w1 ⟨x, rfl, x0, x1, hr, hg⟩
    have hfin : Hid (∀ b, Odd w B g P (.returned (.bool b)) w1) := fun b => ⟨b, rfl, hr, hg⟩
    clear h hr hg
    obtain ⟨b, hb⟩ : ∃ b, (x == n - 1) = b := ⟨_, rfl⟩
    go_wp2_with fail
    go_ret
    exact hfin.out _

/-- What the draw of a name leaves: some short text. -/
def DrawnName (w : World) (B g : Nat) (P : Int) (e : Ending) (w' : World) : Prop := ∃ s : ByteArray, e = .returned (.string s) ∧ s.size ≤ 9 ∧ Rd w' B g (P + 2) ∧ w.grownBy w' (some g)
theorem l20Name_any (w : World) (B g : Nat) (P n : Int) (h : Rd w B g P) (hP : P ≤ 900000) (hn : 0 ≤ n) (hn' : n ≤ 4294967296) :
    Calls Try.prog 101 #[.pointer (some ⟨g, 0, none⟩), .int .i64 n] w (DrawnName w B g P) := by
  go_enter Try.func101, Try.ntmps101
  go_wp2_with fail
  refine (odd_any w B g P n h (by omega) hn hn').mono ?_
  rintro e w1 ⟨b, rfl, hr1, hg1⟩
  clear h
  have s1 := hr1.lt
  rcases b with _ | _
  · go_wp2_with fail
    refine (pick_any _ B g (P + 1) 10 (hr1.alloc _) (by omega) (by omega) (by omega)).mono ?_
    rintro e w2 ⟨x, rfl, x0, x1, hr2, hg2⟩
    obtain ⟨i, rfl⟩ := Int.eq_ofNat_of_zero_le x0
    obtain ⟨s, hs, hs9⟩ := str_read [⟨#[109, 97, 105, 110]⟩, ⟨#[105, 110]⟩, ⟨#[99, 111, 100, 101]⟩, ⟨#[100, 97, 116, 97]⟩, ⟨#[95, 115, 116, 97, 114, 116]⟩, ⟨#[97, 114, 116]⟩, ⟨#[116]⟩, ⟨#[120, 49]⟩, ⟨#[46, 116, 101, 120, 116]⟩, ⟨#[112, 117, 116, 115]⟩] 9 ((Has.new _ _ _).grown hg2 (by simp; omega)) rfl (by decide) i (by simp; omega)
    have hfin : Hid (DrawnName w B g P (.returned (.string s)) w2) := ⟨s, rfl, hs9, hr2.mono (by omega), only_trans (only_alloc hg1 _) hg2⟩
    clear hr1 hg1 hr2 hg2 hs9
    go_wp2_with fail
    go_ret
    exact hfin.out
  · go_wp2_with fail
    refine (pick_any _ B g (P + 1) 6 (hr1.alloc _) (by omega) (by omega) (by omega)).mono ?_
    rintro e w2 ⟨x, rfl, x0, x1, hr2, hg2⟩
    obtain ⟨i, rfl⟩ := Int.eq_ofNat_of_zero_le x0
    obtain ⟨s, hs, hs9⟩ := str_read [⟨#[]⟩, ⟨#[65]⟩, ⟨#[49, 97]⟩, ⟨#[97, 98, 99, 100, 101, 102, 103, 104, 105]⟩, ⟨#[97, 32, 98]⟩, ⟨#[97, 45, 98]⟩] 9 ((Has.new _ _ _).grown hg2 (by simp; omega)) rfl (by decide) i (by simp; omega)
    have hfin : Hid (DrawnName w B g P (.returned (.string s)) w2) := ⟨s, rfl, hs9, hr2.mono (by omega), only_trans (only_alloc hg1 _) hg2⟩
    clear hr1 hg1 hr2 hg2 hs9
    go_wp2_with fail
    go_ret
    exact hfin.out

/-- What the draw of names leaves: some short texts, at most m. -/
def DrawnNames (w : World) (B g : Nat) (P : Int) (m : Nat) (e : Ending) (w' : World) : Prop :=
  ∃ (v : Value) (ss : List ByteArray), e = .returned v ∧ w'.ownsRow w.heap.size 9 1 v ss.length (ss.map Value.string) ∧ (∀ s ∈ ss, s.size ≤ 9) ∧ ss.length ≤ m ∧ Rd w' B g (P + 20) ∧ w.grownBy w' (some g)
set_option maxHeartbeats 2000000 in
theorem l20Names_any (w : World) (B g : Nat) (P n : Int) (h : Rd w B g P) (hP : P ≤ 800000) (hn : 0 ≤ n) (hn' : n ≤ 4294967296) :
    Calls Try.prog 70 #[.pointer (some ⟨g, 0, none⟩), .int .i64 n] w (DrawnNames w B g P 7) := by
  obtain ⟨i0, hi, hz0, hz1, hz2⟩ := info_parts Try.info_str
  have hgs := h.lt
  have hBg : B ≤ g := h.1
  go_enter Try.func70, Try.ntmps70
  go_wp2_with fail
  refine (pick_any _ B g P 8 (h.alloc _) (by omega) (by omega) (by omega)).mono ?_
  rintro e w1 ⟨x, rfl, hx0, hx1, hr1, hg1⟩
  obtain ⟨j0, rfl⟩ := Int.eq_ofNat_of_zero_le hx0
  have hown1 : w1.ownsRow w.heap.size 9 1 (.slice (some ⟨w.heap.size, 0, none⟩) 0 0) 0 (([] : List ByteArray).map Value.string) :=
    (World.ownsRow_lit (base := w.heap.size) (e := 9) (size := 1) w #[] 0 (Nat.le_refl _) (by unfold maxLen; omega) rfl).kept hg1 (.inr (by simp [Value.ownBlock]; omega))
  have hgw1 : w.grownBy w1 (some g) := only_trans (only_alloc (World.grownBy.refl w _) _) hg1
  clear h hg1
  go_wp2
  go_loopw [5, 6] (fun v k wr => ∃ (j : Nat) (ss : List ByteArray) (Q : Int), k = .int .i64 j ∧ ss.length + j ≤ 7 ∧ Q + 2 * j ≤ P + 15 ∧ Rd wr B g Q ∧
      wr.ownsRow w.heap.size 9 1 v ss.length (ss.map Value.string) ∧ Hid (∀ s ∈ ss, s.size ≤ 9) ∧ w.grownBy wr (some g))
    (fun _ k _ => (intOf k).toNat)
  case atStart => exact ⟨j0, [], P + 1, rfl, by simp; omega, by omega, hr1, hown1, hidden (by simp), hgw1⟩
  case round =>
    obtain ⟨j, ss, Q, rfl, hlj, hQ, hr, hown, hwf, hgw⟩ := hrel
    clear hr1 hown1 hgw1
    have hsz := hgw.size
    rcases Nat.eq_zero_or_pos j with rfl | hjp
    · go_wp2
      go_ret
      exact ⟨_, ss, rfl, hown, hwf.out, by omega, hr.mono (by omega), hgw⟩
    · obtain ⟨j, rfl⟩ : ∃ j', j = j' + 1 := ⟨j - 1, by omega⟩
      go_wp2_with fail
      refine (l20Name_any _ B g Q n hr (by omega) hn hn').mono ?_
      rintro e w2 ⟨s, rfl, hs9, hr2, hg2⟩
      have hown2 := hown.kept hg2 (.inr (fun e => by have := (hown.lt _ e).1; omega))
      have hgw2 := only_trans hgw hg2
      have hnb : Hid (∀ q, _ = some q → w.heap.size ≤ q) := fun q hq => (hown2.lt q hq).1
      have HO := hidden hown2
      have s2 := hgw2.size
      clear hr hown hgw hg2 hown2
      go_wp2_with (at_builtin; refine wpList_append_own _ rfl _ _ 27 rfl w.heap.size 9 i0 (.string ⟨#[]⟩) 1 16 Try.underlying27 hi hz0 hz1 hz2 rfl (by decide) _ _ _ rfl (HO.out.alloc _) ⟨w2.heap.size, 0, none⟩ 1 1 [.string s] rfl rfl ?c1 ?c2 ?c3 ?c4 ?c5 ?_)
      case c1 =>
        intro t u ht
        match t, ht with
        | 0, ht => simp at ht; subst ht; simp [Addr.add]
      case c2 => intro u hu; simp at hu; subst hu; rfl
      case c3 => unfold maxLen; omega
      case c4 => omega
      case c5 => simp; omega
      · intro v' w4 hown4 hgrow _
        have hown5 : w4.ownsRow w.heap.size 9 1 v' (ss ++ [s]).length ((ss ++ [s]).map Value.string) := by simpa using hown4
        have hr5 := (hr2.alloc _).grown hgrow (fun q hq => ⟨by have := hnb.out q hq; omega, by have := hnb.out q hq; omega⟩)
        have hgw5 := only_own (only_alloc hgw2 _) hgrow (fun q hq => hnb.out q hq)
        have hwf5 : Hid (∀ x ∈ ss ++ [s], x.size ≤ 9) := fun x hx => by
          rcases List.mem_append.1 hx with h | h
          · exact hwf.out x h
          · simp at h; subst h; exact hs9
        clear hown4 hgrow HO hnb hwf hr2 hgw2
        go_wp2
        go_roundw
        case rel => exact ⟨j, ss ++ [s], _, by go_num, by simp; omega, by omega, hr5, hown5, hwf5, hgw5⟩
        case measure => simp [intOf]

















/-- What the draw of the names of a table leaves. -/
def DrawnTable (w : World) (e : Ending) (w' : World) : Prop :=
  ∃ (v : Value) (ss : List ByteArray), e = .returned v ∧ w'.ownsRow w.heap.size 9 1 v ss.length (ss.map Value.string) ∧ (∀ s ∈ ss, s.size ≤ 9) ∧ ss.length ≤ 41 ∧ Below w.heap.size w w'










































































end Go.Proofs.Ytdjpihbhnncahaa

/-
  spec.DrawPlaceSections and spec.DrawKindEnds.
-/
import Derived.Test.YtiocchmlmcoieaaDrawOT
import Derived.Test.YtiocchmlmcoieaaBase
import Derived.IntWalk
namespace Go.Proofs.Ytiocchmlmcoieaa
open Go.RowKit

/-- A base that was drawn. -/
def BaseD (w : World) (B g : Nat) (P : Int) (e : Ending) (w' : World) : Prop :=
  ∃ z : Int, e = .returned (.int .i64 z) ∧ (-8 ≤ z ∧ z ≤ 4104) ∧ Rd w' B g (P + 3) ∧ w.grownBy w' (some g)
set_option maxRecDepth 100000 in
set_option maxHeartbeats 2000000 in
theorem l20Base_any (w : World) (B g : Nat) (P n : Int) (h : Rd w B g P) (hP : P ≤ 100000) (hn : 0 ≤ n) (hn' : n ≤ 4294967296) :
    Calls Try.prog 32 #[.pointer (some ⟨g, 0, none⟩), .int .i64 n] w (BaseD w B g P) := by
  have HO := hidden (odd_any w B g P n h (by omega) hn hn')
  have hgl := h.lt
  clear h
  go_enter Try.func32, Try.ntmps32
  go_wp2_with fail
  refine HO.out.mono ?_
  clear HO
  rintro e w1 ⟨b, rfl, hr1, hg1⟩
  have hs1 : w.heap.size ≤ w1.heap.size := hg1.size
  rcases b with _ | _
  · have HP1 := hidden (pick_any w1 B g (P + 1) 16 hr1 (by omega) (by omega) (by omega))
    have HG1 := hidden hg1
    clear hr1 hg1
    go_wp2_with fail
    refine HP1.out.mono ?_
    clear HP1
    rintro e w2 ⟨x, rfl, hx0, hx1, hr2, hg2⟩
    have hs2 : w1.heap.size ≤ w2.heap.size := hg2.size
    have hw : IntKind.i64.wrap (8 * x) = 8 * x := IntWalk.i64_in _ (by omega)
    obtain ⟨w3, hw3⟩ : ∃ q, (w2.alloc (.cells #[.int .i64 0, .int .i64 (8 * x), .int .i64 4096] 3)).alloc (.cells #[.int .i64 0, .int .i64 1, .int .i64 1, .int .i64 1, .int .i64 2] 3) = q := ⟨_, rfl⟩
    have hA : Has w3 w2.heap.size 3 #[.int .i64 0, .int .i64 (8 * x), .int .i64 4096] := by rw [← hw3]; exact (Has.new _ _ _).alloc _
    have hB : Has w3 (w2.heap.size + 1) 3 #[.int .i64 0, .int .i64 1, .int .i64 1, .int .i64 1, .int .i64 2] := by
      rw [← hw3]
      have := Has.new (w2.alloc (.cells #[.int .i64 0, .int .i64 (8 * x), .int .i64 4096] 3)) 3 #[.int .i64 0, .int .i64 1, .int .i64 1, .int .i64 1, .int .i64 2]
      simpa using this
    have hr3 : Rd w3 B g (P + 1 + 1) := by rw [← hw3]; exact (hr2.alloc _).alloc _
    have HP3 := hidden (pick_any w3 B g (P + 1 + 1) 5 hr3 (by omega) (by omega) (by omega))
    have HG2 : Hid (w.grownBy w3 (some g)) := by
      show w.grownBy w3 (some g)
      rw [← hw3]
      exact only_alloc (only_alloc (only_trans HG1.out hg2) _) _
    have HW3 := hidden hw3
    have HA := hidden hA
    have HB := hidden hB
    clear hr2 hg2 hw3 hA hB hr3 HG1
    go_wp2_with fail
    rw [HW3.out]
    refine HP3.out.mono ?_
    clear HP3 HW3
    rintro e w4 ⟨y, rfl, hy0, hy1, hr4, hg4⟩
    have hA4 := HA.out.grown hg4 (by intro e; injection e with e; omega)
    have hB4 := HB.out.grown hg4 (by intro e; injection e with e; omega)
    obtain ⟨i, rfl⟩ := Int.eq_ofNat_of_zero_le hy0
    have hi : (i : Int) < 5 := by omega
    obtain ⟨k, c1, hk3⟩ : ∃ k : Nat, w4.cell? ⟨w2.heap.size + 1, i, none⟩ = some (.int .i64 (k : Int)) ∧ k < 3 := by
      rw [hB4.cell i]
      rcases (by omega : i = 0 ∨ i = 1 ∨ i = 2 ∨ i = 3 ∨ i = 4) with rfl | rfl | rfl | rfl | rfl
      · exact ⟨0, rfl, by omega⟩
      · exact ⟨1, rfl, by omega⟩
      · exact ⟨1, rfl, by omega⟩
      · exact ⟨1, rfl, by omega⟩
      · exact ⟨2, rfl, by omega⟩
    have hk : (k : Int) < 3 := by omega
    obtain ⟨z, c2, hz⟩ : ∃ z : Int, w4.cell? ⟨w2.heap.size, k, none⟩ = some (.int .i64 z) ∧ -8 ≤ z ∧ z ≤ 4104 := by
      rw [hA4.cell k]
      rcases (by omega : k = 0 ∨ k = 1 ∨ k = 2) with rfl | rfl | rfl
      · exact ⟨0, rfl, by omega⟩
      · exact ⟨8 * x, rfl, by omega⟩
      · exact ⟨4096, rfl, by omega⟩
    have HF : Hid (BaseD w B g P (.returned (.int .i64 z)) w4) := ⟨z, rfl, hz, hr4.mono (by omega), only_trans HG2.out hg4⟩
    clear hA4 hB4 HA HB hr4 hg4 HG2
    go_wp2_with fail
    go_ret
    exact HF.out
  · obtain ⟨w2, hw2⟩ : ∃ q, w1.alloc (.cells #[.int .i64 (-8), .int .i64 4, .int .i64 4104] 3) = q := ⟨_, rfl⟩
    have hA : Has w2 w1.heap.size 3 #[.int .i64 (-8), .int .i64 4, .int .i64 4104] := by rw [← hw2]; exact Has.new _ _ _
    have hr2 : Rd w2 B g (P + 1) := by rw [← hw2]; exact hr1.alloc _
    have HP3 := hidden (pick_any w2 B g (P + 1) 3 hr2 (by omega) (by omega) (by omega))
    have HG2 : Hid (w.grownBy w2 (some g)) := by
      show w.grownBy w2 (some g)
      rw [← hw2]
      exact only_alloc hg1 _
    have HW2 := hidden hw2
    have HA := hidden hA
    clear hr1 hg1 hw2 hA hr2
    go_wp2_with fail
    rw [HW2.out]
    refine HP3.out.mono ?_
    clear HP3 HW2
    rintro e w4 ⟨y, rfl, hy0, hy1, hr4, hg4⟩
    have hA4 := HA.out.grown hg4 (by intro e; injection e with e; omega)
    obtain ⟨i, rfl⟩ := Int.eq_ofNat_of_zero_le hy0
    have hi : (i : Int) < 3 := by omega
    obtain ⟨z, c2, hz⟩ : ∃ z : Int, w4.cell? ⟨w1.heap.size, i, none⟩ = some (.int .i64 z) ∧ -8 ≤ z ∧ z ≤ 4104 := by
      rw [hA4.cell i]
      rcases (by omega : i = 0 ∨ i = 1 ∨ i = 2) with rfl | rfl | rfl
      · exact ⟨-8, rfl, by omega⟩
      · exact ⟨4, rfl, by omega⟩
      · exact ⟨4104, rfl, by omega⟩
    have HF : Hid (BaseD w B g P (.returned (.int .i64 z)) w4) := ⟨z, rfl, hz, hr4.mono (by omega), only_trans HG2.out hg4⟩
    clear hA4 HA hr4 hg4 HG2
    go_wp2_with fail
    go_ret
    exact HF.out
/-- Objects and a base that were drawn. -/
def GotY (w : World) (e : Ending) (w' : World) : Prop :=
  ∃ (a : Option Addr) (c : Nat) (L : List Oj) (z : Int), e = .returned (.tuple #[.slice a L.length c, .int .i64 z]) ∧ L.length ≤ 5 ∧ (∀ y ∈ L, y.few) ∧ (-8 ≤ z ∧ z ≤ 4104) ∧ Objs w' w'.heap.size a L ∧ Below w.heap.size w w'
set_option maxRecDepth 100000 in
theorem drawPlaceSections_any (w : World) (a : Option Addr) (cap : Nat) (l : List Int) (h : Ints w .u8 w.heap.size a l) (hcap : l.length ≤ cap) (hlen : cap ≤ 9223372036854775807) :
    Calls Try.prog 12 #[.slice a l.length cap] w (GotY w) := by
  go_enter Try.func12, Try.ntmps12
  go_wp2_with fail
  refine (l20Open_any w a cap l h hcap hlen).mono ?_
  rintro e w1 ⟨rfl, hr1, hb1⟩
  have HX := hidden (l20Objects_any w1 w.heap.size w.heap.size 0 9 hr1 (by omega) (by omega) (by omega))
  have HB := hidden hb1
  have hlt := hr1.lt
  clear hr1 hb1 h
  go_wp2_with fail
  refine HX.out.mono ?_
  clear HX
  rintro e w2 ⟨a2, c2, L, rfl, hl, d⟩
  have HN := hidden (l20Base_any w2 w.heap.size w.heap.size (0 + 10000) 9 d.rd (by omega) (by omega) (by omega))
  have HD := hidden d
  obtain ⟨nL, hnL⟩ : ∃ n, L.length = n := ⟨_, rfl⟩
  have HNL := hidden hnL
  rw [hnL]
  clear d hnL
  go_wp2_with fail
  refine HN.out.mono ?_
  clear HN
  rintro e w3 ⟨z, rfl, hz, hr3, hg3⟩
  have HF : Hid (GotY w (.returned (.tuple #[.slice a2 nL c2, .int .i64 z])) w3) := by
    have d3 := HD.out.pick hlt hr3 hg3
    exact ⟨a2, c2, L, z, by rw [HNL.out], hl, d3.few, hz, d3.list.objs', HB.out.grown d3.grown HB.out.size (by intro q hq; injection hq with hq; omega)⟩
  clear HD HB hr3 hg3
  go_wp2_with fail
  go_ret2
  exact HF.out
set_option maxRecDepth 100000 in
theorem drawKindEnds_any (w : World) (a : Option Addr) (cap : Nat) (l : List Int) (h : Ints w .u8 w.heap.size a l) (hcap : l.length ≤ cap) (hlen : cap ≤ 9223372036854775807) :
    Calls Try.prog 17 #[.slice a l.length cap] w (GotY w) := by
  have HX := hidden (drawPlaceSections_any w a cap l h hcap hlen)
  clear h
  go_enter Try.func17, Try.ntmps17
  go_wp2_with fail
  refine HX.out.mono ?_
  clear HX
  rintro e w1 ⟨a2, c2, L, z, rfl, h1, h2, h3, h4, h5⟩
  have HF : Hid (GotY w (.returned (.tuple #[.slice a2 L.length c2, .int .i64 z])) w1) := ⟨a2, c2, L, z, rfl, h1, h2, h3, h4, h5⟩
  clear h1 h2 h3 h4 h5
  go_wp2_with fail
  go_ret2
  exact HF.out

end Go.Proofs.Ytiocchmlmcoieaa

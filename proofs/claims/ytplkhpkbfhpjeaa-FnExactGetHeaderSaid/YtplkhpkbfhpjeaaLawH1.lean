/-
  The walks of the exact laws of chapter 5, over what is wanted of the program.
-/
import Derived.Test.YtplkhpkbfhpjeaaWant5
import Derived.Test.YtplkhpkbfhpjeaaHeadL
import Derived.Test.YtplkhpkbfhpjeaaBase
namespace Go.Proofs.Ytplkhpkbfhpjeaa
open Go.RowKit

set_option maxHeartbeats 1000000 in
theorem law_ExactHeaderValid (hW : WantHeaderValid) (w : World) (h : Hd) (hf : h.fits) :
    Calls Try.prog 5 #[h.agg] w fun e w' => e = .returned (.bool true) ∧ Below w.heap.size w w' := by
  have HT := hidden (fun W => toHeader_any W h)
  have HS := hidden (fun W => headerValid'_any W h)
  have HI := hidden (fun W => hW W h hf)
  obtain ⟨ok, hok⟩ : ∃ q, hdOk h = q := ⟨_, rfl⟩
  rw [hok] at HS HI
  obtain ⟨a, b, c, d⟩ := h
  unfold Hd.agg at *
  clear hok hW hf
  have hb0 : Below w.heap.size w (w.alloc (.cells #[.int .i64 a, .int .i64 b, .int .i64 c, .int .i64 d] 34)) := (Below.refl _ _).alloc (Nat.le_refl _) _
  have hx0 : Has (w.alloc (.cells #[.int .i64 a, .int .i64 b, .int .i64 c, .int .i64 d] 34)) w.heap.size 34 #[.int .i64 a, .int .i64 b, .int .i64 c, .int .i64 d] := Has.new _ _ _
  have hs0 : w.heap.size < (w.alloc (.cells #[.int .i64 a, .int .i64 b, .int .i64 c, .int .i64 d] 34)).heap.size := by simp
  go_enter Try.func5, Try.ntmps5
  go_wp2_with fail
  refine (HT.out _).mono ?_
  rintro e w1 ⟨rfl, hb1⟩
  have hB1 := hb0.trans (hb1.mono hb0.size)
  have hx1 := hx0.below hb1 hs0
  have hs1 : w.heap.size < w1.heap.size := Nat.lt_of_lt_of_le hs0 hb1.size
  clear hb1 hx0 hb0 hs0
  go_wp2_with fail
  refine (HS.out _).mono ?_
  clear HS
  rintro e w2 ⟨rfl, hb2⟩
  have hB2 := hB1.trans (hb2.mono hB1.size)
  have hx2 := hx1.below hb2 hs1
  have q0 : w2.cell? ⟨w.heap.size, 0, none⟩ = some (.int .i64 a) := hx2.cell 0
  have q1 : w2.cell? ⟨w.heap.size, 1, none⟩ = some (.int .i64 b) := hx2.cell 1
  have q2 : w2.cell? ⟨w.heap.size, 2, none⟩ = some (.int .i64 c) := hx2.cell 2
  have q3 : w2.cell? ⟨w.heap.size, 3, none⟩ = some (.int .i64 d) := hx2.cell 3
  clear hb2 hx1 hB1 hs1 hx2
  go_wp2_with fail
  refine (HT.out _).mono ?_
  clear HT q0 q1 q2 q3
  rintro e w3 ⟨rfl, hb3⟩
  have hB3 := hB2.trans (hb3.mono hB2.size)
  clear hb3 hB2
  go_wp2_with fail
  refine (HI.out _).mono ?_
  clear HI
  rintro e w4 ⟨rfl, hb4⟩
  have hB4 := hB3.trans (hb4.mono hB3.size)
  have hrr : (ok != ok) = false := by simp
  clear hb4 hB3
  go_wp2_with fail
  go_ret
  exact ⟨rfl, hB4⟩
set_option maxHeartbeats 2000000 in
theorem law_ExactGetHeader (hW : WantGetHeader) (w : World) (a : Option Addr) (len cap : Nat) (h : ∃ l, Ints w .u8 w.heap.size a l ∧ l.length = len ∧ len ≤ 9223372036854775807) :
    Calls Try.prog 7 #[.slice a len cap] w fun e w' => e = .returned (.bool true) ∧ Below w.heap.size w w' := by
  obtain ⟨l, h, rfl, hmax⟩ := h
  by_cases hbig : 1048576 < l.length
  · have hd : (1048576 : Int) < (l.length : Int) := by omega
    go_enter Try.func7, Try.ntmps7
    go_wp2
    go_ret
    exact ⟨rfl, Below.refl _ _⟩
  have hd : ¬ (1048576 : Int) < (l.length : Int) := by omega
  obtain ⟨n, hn⟩ : ∃ n, l.length = n := ⟨_, rfl⟩
  have HTB : Hid (∀ W, Below w.heap.size w W → Calls Try.prog 22 #[.slice a n cap] W fun e w' => e = .returned (.slice (some ⟨W.heap.size, 0, none⟩) n n) ∧ Has w' W.heap.size 5 (l.map (Value.int .u8)).toArray ∧ Below W.heap.size W w') := fun W hB => by
    have := toByteS_any W w.heap.size a cap l (h.below hB) hB.size (by omega)
    rwa [hn] at this
  obtain ⟨g, hg⟩ : ∃ q, getHd l = q := ⟨_, rfl⟩
  obtain ⟨ok, hok⟩ : ∃ q, isHd l = q := ⟨_, rfl⟩
  have HSP : Hid (∀ (W : World) (k : Nat), Has W k 5 (l.map (Value.int .u8)).toArray → Calls Try.prog 16 #[.slice (some ⟨k, 0, none⟩) n n] W fun e w' => e = .returned (.tuple #[g.agg, .bool ok]) ∧ Below W.heap.size W w') := fun W k hk => by
    have := getHeader'_any W (k + 1) (some ⟨k, 0, none⟩) n n l hn.symm (Ints.ofHas hk rfl h.1 (Nat.lt_succ_self _)) hk.lt (by omega)
    rwa [hg, hok] at this
  have HIM : Hid (∀ (W : World) (k : Nat), Has W k 5 (l.map (Value.int .u8)).toArray → Calls Try.prog 14 #[.slice (some ⟨k, 0, none⟩) n n] W fun e w' => e = .returned (.tuple #[g.agg, .bool ok]) ∧ Below W.heap.size W w') := fun W k hk => by
    have := hW W (k + 1) (some ⟨k, 0, none⟩) n l (Ints.ofHas hk rfl h.1 (Nat.lt_succ_self _)) hk.lt (by omega) (by omega)
    rwa [hg, hok, hn] at this
  have HEB : Hid (∀ (W : World) (k k' : Nat), Has W k 5 (l.map (Value.int .u8)).toArray → Has W k' 5 (l.map (Value.int .u8)).toArray → Calls Try.prog 19 #[.slice (some ⟨k, 0, none⟩) n n, .slice (some ⟨k', 0, none⟩) n n] W fun e w' => e = .returned (.bool true) ∧ ∃ n, w' = W.drewN n) := fun W k k' hk hk' => by
    have := eqByteS_yes W (k + 1) (k' + 1) (some ⟨k, 0, none⟩) (some ⟨k', 0, none⟩) n n l (Ints.ofHas hk rfl h.1 (Nat.lt_succ_self _)) (Ints.ofHas hk' rfl h.1 (Nat.lt_succ_self _)) (by omega)
    rwa [hn] at this
  have HEH : Hid (∀ W, Calls Try.prog 23 #[g.agg, g.agg] W fun e w' => e = .returned (.bool true) ∧ Below W.heap.size W w') := fun W => by
    have := eqHeader_any W g g
    simpa using this
  rw [hn] at hd ⊢
  obtain ⟨x, y, z, u⟩ := g
  unfold Hd.agg at *
  clear h hbig hg hok hW hn
  go_enter Try.func7, Try.ntmps7
  go_wp2_with fail
  refine (HTB.out w (Below.refl _ _)).mono ?_
  rintro e w1 ⟨rfl, hh1, hb1⟩
  have HS1 := hidden (HSP.out w1 _ hh1)
  clear HSP hh1
  go_wp2_with fail
  refine HS1.out.mono ?_
  clear HS1
  rintro e w2 ⟨rfl, hb2⟩
  have hB2 := hb1.trans (hb2.mono hb1.size)
  have hB2a : Below w.heap.size w (w2.alloc (.cells #[.int .i64 x, .int .i64 y, .int .i64 z, .int .i64 u] 24)) := hB2.alloc hB2.size _
  have hx2 : Has (w2.alloc (.cells #[.int .i64 x, .int .i64 y, .int .i64 z, .int .i64 u] 24)) w2.heap.size 24 #[.int .i64 x, .int .i64 y, .int .i64 z, .int .i64 u] := Has.new _ _ _
  have hs2 : w2.heap.size < (w2.alloc (.cells #[.int .i64 x, .int .i64 y, .int .i64 z, .int .i64 u] 24)).heap.size := by simp
  have h3 := hidden (HTB.out _ hB2a)
  clear hb1 hb2 hB2
  go_wp2_with fail
  refine h3.out.mono ?_
  clear h3
  rintro e w3 ⟨rfl, hh3, hb3⟩
  have hB3 := hB2a.trans (hb3.mono hB2a.size)
  have hx3 := hx2.below hb3 hs2
  have HI3 := hidden (HIM.out w3 _ hh3)
  have HH3 := hidden hh3
  clear HIM hx2 hB2a hb3 hh3
  obtain ⟨k, hk⟩ : ∃ k, (w2.alloc (.cells #[.int .i64 x, .int .i64 y, .int .i64 z, .int .i64 u] 24)).heap.size = k := ⟨_, rfl⟩
  rw [hk] at HI3 HH3
  have hk' : w2.heap.size + 1 = k := by rw [← hk]; simp
  clear hk hs2
  try rw [hk']
  go_wp2_with fail
  refine HI3.out.mono ?_
  clear HI3
  rintro e w4 ⟨rfl, hb4⟩
  have hB4 := hB3.trans (hb4.mono hB3.size)
  have hx4 := (hx3.below hb4 hx3.lt).alloc (.cells #[.int .i64 x, .int .i64 y, .int .i64 z, .int .i64 u] 24)
  have HH4 := hidden ((HH3.out.below hb4 HH3.out.lt).alloc (.cells #[.int .i64 x, .int .i64 y, .int .i64 z, .int .i64 u] 24))
  have hB4a : Below w.heap.size w (w4.alloc (.cells #[.int .i64 x, .int .i64 y, .int .i64 z, .int .i64 u] 24)) := hB4.alloc hB4.size _
  have q0 : (w4.alloc (.cells #[.int .i64 x, .int .i64 y, .int .i64 z, .int .i64 u] 24)).cell? ⟨w2.heap.size, 0, none⟩ = some (.int .i64 x) := hx4.cell 0
  have q1 : (w4.alloc (.cells #[.int .i64 x, .int .i64 y, .int .i64 z, .int .i64 u] 24)).cell? ⟨w2.heap.size, 1, none⟩ = some (.int .i64 y) := hx4.cell 1
  have q2 : (w4.alloc (.cells #[.int .i64 x, .int .i64 y, .int .i64 z, .int .i64 u] 24)).cell? ⟨w2.heap.size, 2, none⟩ = some (.int .i64 z) := hx4.cell 2
  have q3 : (w4.alloc (.cells #[.int .i64 x, .int .i64 y, .int .i64 z, .int .i64 u] 24)).cell? ⟨w2.heap.size, 3, none⟩ = some (.int .i64 u) := hx4.cell 3
  have hrr : (ok != ok) = false := by simp
  clear hb4 hB4 hx3 hx4 HH3 hB3
  go_wp2_with fail
  refine (HEH.out _).mono ?_
  clear HEH q0 q1 q2 q3
  rintro e w5 ⟨rfl, hb5⟩
  have hB5 := hB4a.trans (hb5.mono hB4a.size)
  have HH5 := hidden (HH4.out.below hb5 HH4.out.lt)
  have h5 := hidden (HTB.out _ hB5)
  clear hb5 HH4 hB4a
  go_wp2_with fail
  refine h5.out.mono ?_
  clear h5
  rintro e w6 ⟨rfl, hh6, hb6⟩
  have hB6 := hB5.trans (hb6.mono hB5.size)
  have h6 := hidden (HEB.out w6 k _ (HH5.out.below hb6 HH5.out.lt) hh6)
  clear hb6 HH5 hB5 hh6 HEB HTB
  go_wp2_with fail
  refine h6.out.mono ?_
  clear h6
  rintro e _ ⟨rfl, m, rfl⟩
  have hfin := hidden (below_drewN hB6 m)
  clear hB6
  go_wp2_with fail
  go_ret
  exact ⟨rfl, hfin.out⟩

end Go.Proofs.Ytplkhpkbfhpjeaa

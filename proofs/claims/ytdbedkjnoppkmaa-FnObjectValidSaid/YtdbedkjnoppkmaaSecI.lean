/-
  The program's functions of chapter 3: kinds of sections behind an interface.
-/
import Derived.Test.YtdbedkjnoppkmaaWant3
import Derived.Test.YtdbedkjnoppkmaaNamesI
namespace Go.Proofs.Ytdbedkjnoppkmaa
open Go.RowKit

theorem fixupWide_any (w : World) (k : Int) :
    Calls Try.prog 122 #[.int .i64 k] w fun e w' => e = .returned (.int .i64 (wideOf k)) ∧ w = w' := by
  rcases (show k = 1 ∨ k = 2 ∨ k = 3 ∨ (k ≠ 1 ∧ k ≠ 2 ∧ k ≠ 3) by omega) with rfl | rfl | rfl | ⟨h1, h2, h3⟩
  · go_enter Try.func122, Try.ntmps122
    go_wp2
    go_ret
    exact ⟨rfl, rfl⟩
  · go_enter Try.func122, Try.ntmps122
    go_wp2
    go_ret
    exact ⟨rfl, rfl⟩
  · go_enter Try.func122, Try.ntmps122
    go_wp2
    go_ret
    exact ⟨rfl, rfl⟩
  · have e : wideOf k = 0 := by unfold wideOf; rw [if_neg h1, if_neg h2, if_neg h3]
    rw [e]; clear e
    have e1 : (k == 1) = false := by simpa using h1
    have e2 : (k == 2) = false := by simpa using h2
    have e3 : (k == 3) = false := by simpa using h3
    clear h1 h2 h3
    go_enter Try.func122, Try.ntmps122
    go_wp2
    go_ret
    exact ⟨rfl, rfl⟩
theorem wantFixupWide : WantFixupWide := fun w k _ => (fixupWide_any w k).mono fun _ _ h => ⟨h.1, h.2 ▸ Below.refl _ _⟩
theorem kindOf_1 (w : World) :
    Calls Try.prog 67 #[.int .i64 1] w fun e w' => e = .returned (.tuple #[.iface 114 (.agg #[]), .bool true]) ∧ w = w' := by
  go_enter Try.func67, Try.ntmps67
  go_wp2
  go_ret2
  exact ⟨rfl, rfl⟩
theorem kindOf_2 (w : World) :
    Calls Try.prog 67 #[.int .i64 2] w fun e w' => e = .returned (.tuple #[.iface 115 (.agg #[]), .bool true]) ∧ w = w' := by
  go_enter Try.func67, Try.ntmps67
  go_wp2
  go_ret2
  exact ⟨rfl, rfl⟩
theorem kindOf_3 (w : World) :
    Calls Try.prog 67 #[.int .i64 3] w fun e w' => e = .returned (.tuple #[.iface 116 (.agg #[]), .bool true]) ∧ w = w' := by
  go_enter Try.func67, Try.ntmps67
  go_wp2
  go_ret2
  exact ⟨rfl, rfl⟩
theorem kindOf_no (w : World) (k : Int) (h1 : (k == 1) = false) (h2 : (k == 2) = false) (h3 : (k == 3) = false) :
    Calls Try.prog 67 #[.int .i64 k] w fun e w' => e = .returned (.tuple #[.nilIface, .bool false]) ∧ w = w' := by
  go_enter Try.func67, Try.ntmps67
  go_wp2
  go_ret2
  exact ⟨rfl, rfl⟩
theorem fixupWide_below (w : World) (k : Int) :
    Calls Try.prog 122 #[.int .i64 k] w fun e w' => e = .returned (.int .i64 (wideOf k)) ∧ Below w.heap.size w w' :=
  (fixupWide_any w k).mono fun _ _ h => ⟨h.1, h.2 ▸ Below.refl _ _⟩
theorem alignValid_any (w : World) (al : Int) :
    Calls Try.prog 68 #[.int .i64 al] w fun e w' => e = .returned (.bool (decide (al = 1 ∨ al = 2 ∨ al = 4 ∨ al = 8))) ∧ w = w' := by
  by_cases h : al = 1 ∨ al = 2 ∨ al = 4 ∨ al = 8
  · rcases h with rfl | rfl | rfl | rfl
    · exact alignValid_1 w
    · exact alignValid_2 w
    · exact alignValid_4 w
    · exact alignValid_8 w
  · have e : decide (al = 1 ∨ al = 2 ∨ al = 4 ∨ al = 8) = false := by simpa using h
    rw [e]
    exact alignValid_no al (by simp; omega) (by simp; omega) (by simp; omega) (by simp; omega) w
theorem filledSize_any (w : World) (s : Sx) (a1 : Option Addr) (c1 : Nat) (a2 : Option Addr) (c2 : Nat) (hl : s.bytes.length ≤ 9223372036854775807) :
    Calls Try.prog 119 #[.agg #[], s.agg a1 c1 a2 c2] w fun e w' => e = .returned (.int .i64 (s.bytes.length : Int)) ∧ Below w.heap.size w w' := by
  obtain ⟨nm, k, al, bs, sz, fs⟩ := s
  unfold Sx.agg
  simp only at hl ⊢
  generalize bs.length = nb at hl ⊢
  generalize fs.length = nf
  go_enter Try.func119, Try.ntmps119
  go_wp2
  go_ret
  exact ⟨rfl, ((Below.refl _ _).alloc (Nat.le_refl _) _).alloc (by simp) _⟩
theorem blankSize_any (w : World) (s : Sx) (a1 : Option Addr) (c1 : Nat) (a2 : Option Addr) (c2 : Nat) :
    Calls Try.prog 123 #[.agg #[], s.agg a1 c1 a2 c2] w fun e w' => e = .returned (.int .i64 s.size) ∧ Below w.heap.size w w' := by
  obtain ⟨nm, k, al, bs, sz, fs⟩ := s
  unfold Sx.agg
  simp only
  generalize bs.length = nb
  generalize fs.length = nf
  go_enter Try.func123, Try.ntmps123
  go_wp2
  go_ret
  exact ⟨rfl, ((Below.refl _ _).alloc (Nat.le_refl _) _).alloc (by simp) _⟩
set_option maxHeartbeats 1000000 in
theorem wantSectionSize : WantSectionSize := by
  intro w B s a1 c1 a2 c2 h1 h2 hB hfit
  have hl := hfit.bytes
  have HF := hidden (fun W => filledSize_any W s a1 c1 a2 c2 hl)
  have HB := hidden (fun W => blankSize_any W s a1 c1 a2 c2)
  have hlong : s.long = if s.kind = 3 then s.size else (s.bytes.length : Int) := rfl
  have HL := hidden hlong
  clear hlong h1 h2 hB hfit
  generalize hlg : s.long = lg at HL ⊢
  clear hlg
  obtain ⟨nm, k, al, bs, sz, fs⟩ := s
  simp only [Sx.agg] at HF HB HL hl ⊢
  generalize bs.length = nb at HF HB HL hl ⊢
  generalize fs.length = nf at HF HB HL ⊢
  have m1 : ∀ w : World, (method 262 114 (.agg #[]) "loop.example/objectlinker/impl.size").run Try.prog w = .ok (119, .agg #[]) w := fun _ => by kernel_rfl
  have m2 : ∀ w : World, (method 262 115 (.agg #[]) "loop.example/objectlinker/impl.size").run Try.prog w = .ok (119, .agg #[]) w := fun _ => by kernel_rfl
  have m3 : ∀ w : World, (method 262 116 (.agg #[]) "loop.example/objectlinker/impl.size").run Try.prog w = .ok (123, .agg #[]) w := fun _ => by kernel_rfl
  rcases (show k = 1 ∨ k = 2 ∨ k = 3 ∨ (k ≠ 1 ∧ k ≠ 2 ∧ k ≠ 3) by omega) with rfl | rfl | rfl | ⟨h1, h2, h3⟩
  · have HG : Hid (lg = (nb : Int)) := by show _ = _; rw [HL.out]; rfl
    clear HL HB m2 m3
    go_enter Try.func40, Try.ntmps40
    go_wp2_with fail
    refine (kindOf_1 _).mono ?_
    rintro e w1 ⟨rfl, rfl⟩
    go_wp2_with fail
    refine (HF.out _).mono ?_
    rintro e w2 ⟨rfl, hb⟩
    go_wp2_with fail
    go_ret
    exact ⟨ret_int HG.out.symm, ((Below.refl _ _).alloc (Nat.le_refl _) _).trans (hb.mono (by simp))⟩
  · have HG : Hid (lg = (nb : Int)) := by show _ = _; rw [HL.out]; rfl
    clear HL HB m1 m3
    go_enter Try.func40, Try.ntmps40
    go_wp2_with fail
    refine (kindOf_2 _).mono ?_
    rintro e w1 ⟨rfl, rfl⟩
    go_wp2_with fail
    refine (HF.out _).mono ?_
    rintro e w2 ⟨rfl, hb⟩
    go_wp2_with fail
    go_ret
    exact ⟨ret_int HG.out.symm, ((Below.refl _ _).alloc (Nat.le_refl _) _).trans (hb.mono (by simp))⟩
  · have HG : Hid (lg = sz) := by show _ = _; rw [HL.out]; rfl
    clear HL HF m1 m2
    go_enter Try.func40, Try.ntmps40
    go_wp2_with fail
    refine (kindOf_3 _).mono ?_
    rintro e w1 ⟨rfl, rfl⟩
    go_wp2_with fail
    refine (HB.out _).mono ?_
    rintro e w2 ⟨rfl, hb⟩
    go_wp2_with fail
    go_ret
    exact ⟨ret_int HG.out.symm, ((Below.refl _ _).alloc (Nat.le_refl _) _).trans (hb.mono (by simp))⟩
  · have HG : Hid (lg = (nb : Int)) := by show _ = _; rw [HL.out, if_neg h3]
    have e1 : (k == 1) = false := by simpa using h1
    have e2 : (k == 2) = false := by simpa using h2
    have e3 : (k == 3) = false := by simpa using h3
    have HO := hidden (fun W => kindOf_no W k e1 e2 e3)
    clear HL HB HF m1 m2 m3 h1 h2 h3 e1 e2 e3
    go_enter Try.func40, Try.ntmps40
    go_wp2_with fail
    refine (HO.out _).mono ?_
    rintro e w1 ⟨rfl, rfl⟩
    go_wp2_with fail
    go_ret
    exact ⟨ret_int HG.out.symm, (Below.refl _ _).alloc (Nat.le_refl _) _⟩

end Go.Proofs.Ytdbedkjnoppkmaa

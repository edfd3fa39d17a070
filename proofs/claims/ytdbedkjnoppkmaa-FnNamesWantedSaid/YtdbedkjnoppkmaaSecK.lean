/-
  The program's valid sections.
-/
import Derived.Test.YtdbedkjnoppkmaaSecJ
namespace Go.Proofs.Ytdbedkjnoppkmaa
open Go.RowKit

set_option maxHeartbeats 1000000 in
theorem filledValid_any (w : World) (B : Nat) (s : Sx) (many : Int) (a1 : Option Addr) (c1 : Nat) (a2 : Option Addr) (c2 : Nat) (h2 : Fixs w B a2 s.fixs) (hB : B ≤ w.heap.size) (hl1 : s.bytes.length ≤ 9223372036854775807) (hl2 : s.fixs.length ≤ 9223372036854775807) :
    Calls Try.prog 120 #[.agg #[], s.agg a1 c1 a2 c2, .int .i64 many] w fun e w' => e = .returned (.bool (decide (s.size = 0) && decide (s.bytes.length ≤ 48) && decide (s.fixs.length ≤ 6) && fixsOk s.bytes.length many 0 s.fixs)) ∧ Below w.heap.size w w' := by
  obtain ⟨nm, k, al, bs, sz, fs⟩ := s
  unfold Sx.agg
  simp only at h2 hl1 hl2 ⊢
  have HFV := hidden (fun (W : World) (hw : Below w.heap.size w W) => fixupsValid_any W B fs many bs.length a2 c2 (h2.below (hw.mono hB)) (Nat.le_trans hB hw.size) (by omega) hl2)
  generalize bs.length = nb at HFV hl1 ⊢
  generalize fs.length = nf at HFV hl2 ⊢
  obtain ⟨fo, hfo⟩ : ∃ b, b = fixsOk nb many 0 fs := ⟨_, rfl⟩
  rw [← hfo] at HFV ⊢
  clear hfo h2
  obtain ⟨ok, hok⟩ : ∃ b, b = (decide (sz = 0) && decide (nb ≤ 48) && decide (nf ≤ 6) && fo) := ⟨_, rfl⟩
  rw [← hok]
  have HOK := hidden hok
  clear hok
  have hbw : Below w.heap.size w ((w.alloc (.cells #[] 112)).alloc (.cells #[.string nm, .int .i64 k, .int .i64 al, .slice a1 nb c1, .int .i64 sz, .slice a2 nf c2] 61)) := ((Below.refl _ _).alloc (Nat.le_refl _) _).alloc (by simp) _
  by_cases z0 : sz = 0
  case neg =>
    have z0' : (sz == 0) = false := by simpa using z0
    have HF : Hid (ok = false) := by show _ = _; rw [HOK.out]; simp [z0]
    clear HOK HFV z0
    go_enter Try.func120, Try.ntmps120
    go_wp2_with fail
    go_ret
    exact ⟨ret_bool HF.out.symm, hbw⟩
  have z0' : (sz == 0) = true := by simp [z0]
  by_cases hb : (nb : Int) ≤ 48
  case neg =>
    have HF : Hid (ok = false) := by show _ = _; rw [HOK.out]; simp; omega
    clear HOK HFV z0
    go_enter Try.func120, Try.ntmps120
    go_wp2_with fail
    go_ret
    exact ⟨ret_bool HF.out.symm, hbw⟩
  by_cases hf : (nf : Int) ≤ 6
  case neg =>
    have HF : Hid (ok = false) := by show _ = _; rw [HOK.out]; simp; omega
    clear HOK HFV z0
    go_enter Try.func120, Try.ntmps120
    go_wp2_with fail
    go_ret
    exact ⟨ret_bool HF.out.symm, hbw⟩
  have HF : Hid (ok = fo) := by show _ = _; rw [HOK.out]; have : nb ≤ 48 := by omega
                                have : nf ≤ 6 := by omega
                                simp [*]
  clear HOK z0
  go_enter Try.func120, Try.ntmps120
  go_wp2_with fail
  refine (HFV.out _ hbw).mono ?_
  rintro e w1 ⟨rfl, hb1⟩
  go_wp2_with fail
  go_ret
  exact ⟨ret_bool HF.out.symm, hbw.trans (hb1.mono hbw.size)⟩
set_option maxHeartbeats 1000000 in
theorem blankValid_any (w : World) (s : Sx) (many : Int) (a1 : Option Addr) (c1 : Nat) (a2 : Option Addr) (c2 : Nat) (hl1 : s.bytes.length ≤ 9223372036854775807) (hl2 : s.fixs.length ≤ 9223372036854775807) :
    Calls Try.prog 124 #[.agg #[], s.agg a1 c1 a2 c2, .int .i64 many] w fun e w' => e = .returned (.bool (decide (0 ≤ s.size ∧ s.size ≤ 48) && decide (s.bytes.length = 0) && decide (s.fixs.length = 0))) ∧ Below w.heap.size w w' := by
  obtain ⟨nm, k, al, bs, sz, fs⟩ := s
  unfold Sx.agg
  simp only at hl1 hl2 ⊢
  generalize bs.length = nb at hl1 ⊢
  generalize fs.length = nf at hl2 ⊢
  obtain ⟨ok, hok⟩ : ∃ b, b = (decide (0 ≤ sz ∧ sz ≤ 48) && decide (nb = 0) && decide (nf = 0)) := ⟨_, rfl⟩
  rw [← hok]
  have HOK := hidden hok
  clear hok
  have hbw : Below w.heap.size w ((w.alloc (.cells #[] 116)).alloc (.cells #[.string nm, .int .i64 k, .int .i64 al, .slice a1 nb c1, .int .i64 sz, .slice a2 nf c2] 61)) := ((Below.refl _ _).alloc (Nat.le_refl _) _).alloc (by simp) _
  by_cases s0 : 0 ≤ sz
  case neg =>
    have HF : Hid (ok = false) := by show _ = _; rw [HOK.out]; simp; omega
    clear HOK
    go_enter Try.func124, Try.ntmps124
    go_wp2_with fail
    go_ret
    exact ⟨ret_bool HF.out.symm, hbw⟩
  by_cases s1 : sz ≤ 48
  case neg =>
    have HF : Hid (ok = false) := by show _ = _; rw [HOK.out]; simp; omega
    clear HOK
    go_enter Try.func124, Try.ntmps124
    go_wp2_with fail
    go_ret
    exact ⟨ret_bool HF.out.symm, hbw⟩
  by_cases b0 : nb = 0
  case neg =>
    have b0' : ((nb : Int) == 0) = false := by simp; omega
    have HF : Hid (ok = false) := by show _ = _; rw [HOK.out]; simp [b0]
    clear HOK b0
    go_enter Try.func124, Try.ntmps124
    go_wp2_with fail
    go_ret
    exact ⟨ret_bool HF.out.symm, hbw⟩
  have b0' : ((nb : Int) == 0) = true := by simp [b0]
  by_cases f0 : nf = 0
  case neg =>
    have f0' : ((nf : Int) == 0) = false := by simp; omega
    have HF : Hid (ok = false) := by show _ = _; rw [HOK.out]; simp [f0]
    clear HOK b0 f0
    go_enter Try.func124, Try.ntmps124
    go_wp2_with fail
    go_ret
    exact ⟨ret_bool HF.out.symm, hbw⟩
  have f0' : ((nf : Int) == 0) = true := by simp [f0]
  have HF : Hid (ok = true) := by show _ = _; rw [HOK.out]; simp [b0, f0, s0, s1]
  clear HOK b0 f0
  go_enter Try.func124, Try.ntmps124
  go_wp2_with fail
  go_ret
  exact ⟨ret_bool HF.out.symm, hbw⟩
set_option maxHeartbeats 2000000 in
theorem wantSectionValid : WantSectionValid := by
  intro w B s many a1 c1 a2 c2 h1 h2 hB hfit hmany
  have hl1 := hfit.bytes
  have hl2 := hfit.count
  have hname := hfit.name
  have HFV := hidden (fun (W : World) (hw : Below w.heap.size w W) => filledValid_any W B s many a1 c1 a2 c2 (h2.below (hw.mono hB)) (Nat.le_trans hB hw.size) hl1 hl2)
  have HBV := hidden (fun (W : World) (_ : Below w.heap.size w W) => blankValid_any W s many a1 c1 a2 c2 hl1 hl2)
  clear h1 h2 hB hfit
  obtain ⟨nm, k, al, bs, sz, fs⟩ := s
  simp only [Sx.agg] at HFV HBV hl1 hl2 hname ⊢
  have HNV := hidden (fun W => nameValid_any nm W hname)
  have HAV := hidden (fun W => alignValid_any W al)
  obtain ⟨ok, hok⟩ : ∃ ok, ok = sectOk ⟨nm, k, al, bs, sz, fs⟩ many := ⟨_, rfl⟩
  have HOK : Hid (ok = (nameOk nm.data.toList && decide (1 ≤ k ∧ k ≤ 3) && decide (al = 1 ∨ al = 2 ∨ al = 4 ∨ al = 8) && decide (bs.length ≤ 48) && decide (fs.length ≤ 6) && decide (0 ≤ sz ∧ sz ≤ 48) &&
      (if k = 3 then decide (bs.length = 0) && decide (fs.length = 0) else fixsOk bs.length many 0 fs && decide (sz = 0)))) := by
    show _ = _; rw [hok]; rfl
  rw [← hok]
  clear hok
  generalize bs.length = nb at HFV HBV HOK hl1 ⊢
  generalize fs.length = nf at HFV HBV HOK hl2 ⊢
  generalize fixsOk nb many 0 fs = fo at HFV HOK
  have hbw : Below w.heap.size w (w.alloc (.cells #[.string nm, .int .i64 k, .int .i64 al, .slice a1 nb c1, .int .i64 sz, .slice a2 nf c2] 61)) := (Below.refl _ _).alloc (Nat.le_refl _) _
  rcases (show k = 1 ∨ k = 2 ∨ k = 3 ∨ (k ≠ 1 ∧ k ≠ 2 ∧ k ≠ 3) by omega) with rfl | rfl | rfl | ⟨h1, h2, h3⟩
  · have m0 : ∀ w : World, (method 262 114 (.agg #[]) "loop.example/objectlinker/impl.valid").run Try.prog w = .ok (120, .agg #[]) w := fun _ => by kernel_rfl
    rcases hnn : nameOk nm.data.toList with _ | _
    · rw [hnn] at HNV HOK
      have HF : Hid (ok = false) := by show _ = _; rw [HOK.out]; simp
      clear HOK HFV HBV hnn
      go_enter Try.func81, Try.ntmps81
      go_wp2_with fail
      refine (kindOf_1 _).mono ?_
      rintro e w1 ⟨rfl, rfl⟩
      go_wp2_with fail
      refine (HNV.out _).mono ?_
      rintro e w1 ⟨rfl, rfl⟩
      go_wp2_with fail
      go_ret
      exact ⟨ret_bool HF.out.symm, hbw⟩
    rw [hnn] at HNV HOK
    rcases hal : decide (al = 1 ∨ al = 2 ∨ al = 4 ∨ al = 8) with _ | _
    · rw [hal] at HAV HOK
      have HF : Hid (ok = false) := by show _ = _; rw [HOK.out]; simp
      clear HOK HFV HBV hnn hal
      go_enter Try.func81, Try.ntmps81
      go_wp2_with fail
      refine (kindOf_1 _).mono ?_
      rintro e w1 ⟨rfl, rfl⟩
      go_wp2_with fail
      refine (HNV.out _).mono ?_
      rintro e w1 ⟨rfl, rfl⟩
      go_wp2_with fail
      refine (HAV.out _).mono ?_
      rintro e w1 ⟨rfl, rfl⟩
      go_wp2_with fail
      go_ret
      exact ⟨ret_bool HF.out.symm, hbw⟩
    rw [hal] at HAV HOK
    have HF := hidden (show ok = (decide (sz = 0) && decide (nb ≤ 48) && decide (nf ≤ 6) && fo) by rw [HOK.out]; cases fo <;> first | (simp; done) | (rw [Bool.eq_iff_iff]; simp; omega))
    clear HOK hnn hal
    go_enter Try.func81, Try.ntmps81
    go_wp2_with fail
    refine (kindOf_1 _).mono ?_
    rintro e w1 ⟨rfl, rfl⟩
    go_wp2_with fail
    refine (HNV.out _).mono ?_
    rintro e w1 ⟨rfl, rfl⟩
    go_wp2_with fail
    refine (HAV.out _).mono ?_
    rintro e w1 ⟨rfl, rfl⟩
    go_wp2_with fail
    refine (HFV.out _ hbw).mono ?_
    rintro e w1 ⟨rfl, hb1⟩
    go_wp2_with fail
    go_ret
    exact ⟨ret_bool HF.out.symm, hbw.trans (hb1.mono hbw.size)⟩
  · have m0 : ∀ w : World, (method 262 115 (.agg #[]) "loop.example/objectlinker/impl.valid").run Try.prog w = .ok (120, .agg #[]) w := fun _ => by kernel_rfl
    rcases hnn : nameOk nm.data.toList with _ | _
    · rw [hnn] at HNV HOK
      have HF : Hid (ok = false) := by show _ = _; rw [HOK.out]; simp
      clear HOK HFV HBV hnn
      go_enter Try.func81, Try.ntmps81
      go_wp2_with fail
      refine (kindOf_2 _).mono ?_
      rintro e w1 ⟨rfl, rfl⟩
      go_wp2_with fail
      refine (HNV.out _).mono ?_
      rintro e w1 ⟨rfl, rfl⟩
      go_wp2_with fail
      go_ret
      exact ⟨ret_bool HF.out.symm, hbw⟩
    rw [hnn] at HNV HOK
    rcases hal : decide (al = 1 ∨ al = 2 ∨ al = 4 ∨ al = 8) with _ | _
    · rw [hal] at HAV HOK
      have HF : Hid (ok = false) := by show _ = _; rw [HOK.out]; simp
      clear HOK HFV HBV hnn hal
      go_enter Try.func81, Try.ntmps81
      go_wp2_with fail
      refine (kindOf_2 _).mono ?_
      rintro e w1 ⟨rfl, rfl⟩
      go_wp2_with fail
      refine (HNV.out _).mono ?_
      rintro e w1 ⟨rfl, rfl⟩
      go_wp2_with fail
      refine (HAV.out _).mono ?_
      rintro e w1 ⟨rfl, rfl⟩
      go_wp2_with fail
      go_ret
      exact ⟨ret_bool HF.out.symm, hbw⟩
    rw [hal] at HAV HOK
    have HF := hidden (show ok = (decide (sz = 0) && decide (nb ≤ 48) && decide (nf ≤ 6) && fo) by rw [HOK.out]; cases fo <;> first | (simp; done) | (rw [Bool.eq_iff_iff]; simp; omega))
    clear HOK hnn hal
    go_enter Try.func81, Try.ntmps81
    go_wp2_with fail
    refine (kindOf_2 _).mono ?_
    rintro e w1 ⟨rfl, rfl⟩
    go_wp2_with fail
    refine (HNV.out _).mono ?_
    rintro e w1 ⟨rfl, rfl⟩
    go_wp2_with fail
    refine (HAV.out _).mono ?_
    rintro e w1 ⟨rfl, rfl⟩
    go_wp2_with fail
    refine (HFV.out _ hbw).mono ?_
    rintro e w1 ⟨rfl, hb1⟩
    go_wp2_with fail
    go_ret
    exact ⟨ret_bool HF.out.symm, hbw.trans (hb1.mono hbw.size)⟩
  · have m0 : ∀ w : World, (method 262 116 (.agg #[]) "loop.example/objectlinker/impl.valid").run Try.prog w = .ok (124, .agg #[]) w := fun _ => by kernel_rfl
    rcases hnn : nameOk nm.data.toList with _ | _
    · rw [hnn] at HNV HOK
      have HF : Hid (ok = false) := by show _ = _; rw [HOK.out]; simp
      clear HOK HFV HBV hnn
      go_enter Try.func81, Try.ntmps81
      go_wp2_with fail
      refine (kindOf_3 _).mono ?_
      rintro e w1 ⟨rfl, rfl⟩
      go_wp2_with fail
      refine (HNV.out _).mono ?_
      rintro e w1 ⟨rfl, rfl⟩
      go_wp2_with fail
      go_ret
      exact ⟨ret_bool HF.out.symm, hbw⟩
    rw [hnn] at HNV HOK
    rcases hal : decide (al = 1 ∨ al = 2 ∨ al = 4 ∨ al = 8) with _ | _
    · rw [hal] at HAV HOK
      have HF : Hid (ok = false) := by show _ = _; rw [HOK.out]; simp
      clear HOK HFV HBV hnn hal
      go_enter Try.func81, Try.ntmps81
      go_wp2_with fail
      refine (kindOf_3 _).mono ?_
      rintro e w1 ⟨rfl, rfl⟩
      go_wp2_with fail
      refine (HNV.out _).mono ?_
      rintro e w1 ⟨rfl, rfl⟩
      go_wp2_with fail
      refine (HAV.out _).mono ?_
      rintro e w1 ⟨rfl, rfl⟩
      go_wp2_with fail
      go_ret
      exact ⟨ret_bool HF.out.symm, hbw⟩
    rw [hal] at HAV HOK
    have HF := hidden (show ok = (decide (0 ≤ sz ∧ sz ≤ 48) && decide (nb = 0) && decide (nf = 0)) by rw [HOK.out]; rw [Bool.eq_iff_iff]; simp; omega)
    clear HOK hnn hal
    go_enter Try.func81, Try.ntmps81
    go_wp2_with fail
    refine (kindOf_3 _).mono ?_
    rintro e w1 ⟨rfl, rfl⟩
    go_wp2_with fail
    refine (HNV.out _).mono ?_
    rintro e w1 ⟨rfl, rfl⟩
    go_wp2_with fail
    refine (HAV.out _).mono ?_
    rintro e w1 ⟨rfl, rfl⟩
    go_wp2_with fail
    refine (HBV.out _ hbw).mono ?_
    rintro e w1 ⟨rfl, hb1⟩
    go_wp2_with fail
    go_ret
    exact ⟨ret_bool (by rw [HF.out]; simp), hbw.trans (hb1.mono hbw.size)⟩
  · have HF : Hid (ok = false) := by show _ = _; rw [HOK.out]; simp; omega
    have e1 : (k == 1) = false := by simpa using h1
    have e2 : (k == 2) = false := by simpa using h2
    have e3 : (k == 3) = false := by simpa using h3
    have HO := hidden (fun W => kindOf_no W k e1 e2 e3)
    clear HOK HFV HBV HNV HAV h1 h2 h3 e1 e2 e3
    go_enter Try.func81, Try.ntmps81
    go_wp2_with fail
    refine (HO.out _).mono ?_
    rintro e w1 ⟨rfl, rfl⟩
    go_wp2_with fail
    go_ret
    exact ⟨ret_bool HF.out.symm, hbw⟩

end Go.Proofs.Ytdbedkjnoppkmaa

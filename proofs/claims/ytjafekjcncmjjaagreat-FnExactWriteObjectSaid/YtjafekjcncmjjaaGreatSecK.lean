/-
  The program's functions of chapter 3: kinds of sections behind an interface. The program's fixups of a section, one behind the other. The program's valid sections.
-/
import Derived.Test.YtjafekjcncmjjaaGreatWant3
import Derived.Test.YtjafekjcncmjjaaGreatNamesI
/- The program's functions of chapter 3: kinds of sections behind an interface. -/
namespace Go.Proofs.YtjafekjcncmjjaaGreat
open Go.RowKit

theorem fixupWide_any (w : World) (k : Int) :
    Calls Tryz.prog 130 #[.int .i64 k] w fun e w' => e = .returned (.int .i64 (wideOf k)) ∧ w = w' := by
  rcases (show k = 1 ∨ k = 2 ∨ k = 3 ∨ (k ≠ 1 ∧ k ≠ 2 ∧ k ≠ 3) by omega) with rfl | rfl | rfl | ⟨h1, h2, h3⟩
  · go_enter Tryz.func130, Tryz.ntmps130
    go_wp2
    go_ret
    exact ⟨rfl, rfl⟩
  · go_enter Tryz.func130, Tryz.ntmps130
    go_wp2
    go_ret
    exact ⟨rfl, rfl⟩
  · go_enter Tryz.func130, Tryz.ntmps130
    go_wp2
    go_ret
    exact ⟨rfl, rfl⟩
  · have e : wideOf k = 0 := by unfold wideOf; rw [if_neg h1, if_neg h2, if_neg h3]
    rw [e]; clear e
    have e1 : (k == 1) = false := by simpa using h1
    have e2 : (k == 2) = false := by simpa using h2
    have e3 : (k == 3) = false := by simpa using h3
    clear h1 h2 h3
    go_enter Tryz.func130, Tryz.ntmps130
    go_wp2
    go_ret
    exact ⟨rfl, rfl⟩
theorem wantFixupWide : WantFixupWide := fun w k _ => (fixupWide_any w k).mono fun _ _ h => ⟨h.1, h.2 ▸ Below.refl _ _⟩
theorem kindOf_1 (w : World) :
    Calls Tryz.prog 75 #[.int .i64 1] w fun e w' => e = .returned (.tuple #[.iface 133 (.agg #[]), .bool true]) ∧ w = w' := by
  go_enter Tryz.func75, Tryz.ntmps75
  go_wp2
  go_ret2
  exact ⟨rfl, rfl⟩
theorem kindOf_2 (w : World) :
    Calls Tryz.prog 75 #[.int .i64 2] w fun e w' => e = .returned (.tuple #[.iface 134 (.agg #[]), .bool true]) ∧ w = w' := by
  go_enter Tryz.func75, Tryz.ntmps75
  go_wp2
  go_ret2
  exact ⟨rfl, rfl⟩
theorem kindOf_3 (w : World) :
    Calls Tryz.prog 75 #[.int .i64 3] w fun e w' => e = .returned (.tuple #[.iface 135 (.agg #[]), .bool true]) ∧ w = w' := by
  go_enter Tryz.func75, Tryz.ntmps75
  go_wp2
  go_ret2
  exact ⟨rfl, rfl⟩
theorem kindOf_no (w : World) (k : Int) (h1 : (k == 1) = false) (h2 : (k == 2) = false) (h3 : (k == 3) = false) :
    Calls Tryz.prog 75 #[.int .i64 k] w fun e w' => e = .returned (.tuple #[.nilIface, .bool false]) ∧ w = w' := by
  go_enter Tryz.func75, Tryz.ntmps75
  go_wp2
  go_ret2
  exact ⟨rfl, rfl⟩
theorem fixupWide_below (w : World) (k : Int) :
    Calls Tryz.prog 130 #[.int .i64 k] w fun e w' => e = .returned (.int .i64 (wideOf k)) ∧ Below w.heap.size w w' :=
  (fixupWide_any w k).mono fun _ _ h => ⟨h.1, h.2 ▸ Below.refl _ _⟩
theorem alignValid_any (w : World) (al : Int) :
    Calls Tryz.prog 88 #[.int .i64 al] w fun e w' => e = .returned (.bool (decide (al = 1 ∨ al = 2 ∨ al = 4 ∨ al = 8))) ∧ w = w' := by
  by_cases h : al = 1 ∨ al = 2 ∨ al = 4 ∨ al = 8
  · rcases h with rfl | rfl | rfl | rfl
    · exact alignValid_1 w
    · exact alignValid_2 w
    · exact alignValid_4 w
    · exact alignValid_8 w
  · have e : decide (al = 1 ∨ al = 2 ∨ al = 4 ∨ al = 8) = false := by simpa using h
    rw [e]
    exact alignValid_no al (by simp; omega) (by simp; omega) (by simp; omega) (by simp; omega) w
theorem filledSize_any (w : World) (s : Sx) (a1 : Option Addr) (c1 : Nat) (a2 : Option Addr) (c2 : Nat) (hl : s.bytes.length ≤ 9223372036854775807) :
    Calls Tryz.prog 127 #[.agg #[], s.agg a1 c1 a2 c2] w fun e w' => e = .returned (.int .i64 (s.bytes.length : Int)) ∧ Below w.heap.size w w' := by
  obtain ⟨nm, k, al, bs, sz, fs⟩ := s
  unfold Sx.agg
  simp only at hl ⊢
  generalize bs.length = nb at hl ⊢
  generalize fs.length = nf
  go_enter Tryz.func127, Tryz.ntmps127
  go_wp2
  go_ret
  exact ⟨rfl, ((Below.refl _ _).alloc (Nat.le_refl _) _).alloc (by simp) _⟩
theorem blankSize_any (w : World) (s : Sx) (a1 : Option Addr) (c1 : Nat) (a2 : Option Addr) (c2 : Nat) :
    Calls Tryz.prog 131 #[.agg #[], s.agg a1 c1 a2 c2] w fun e w' => e = .returned (.int .i64 s.size) ∧ Below w.heap.size w w' := by
  obtain ⟨nm, k, al, bs, sz, fs⟩ := s
  unfold Sx.agg
  simp only
  generalize bs.length = nb
  generalize fs.length = nf
  go_enter Tryz.func131, Tryz.ntmps131
  go_wp2
  go_ret
  exact ⟨rfl, ((Below.refl _ _).alloc (Nat.le_refl _) _).alloc (by simp) _⟩
set_option maxHeartbeats 1000000 in
theorem wantSectionSize : WantSectionSize := by
  intro w B s a1 c1 a2 c2 h1 h2 hB hfit
  have hl := hfit.bytes
  have HF := hidden (fun W => filledSize_any W s a1 c1 a2 c2 hl)
  have HB := hidden (fun W => blankSize_any W s a1 c1 a2 c2)
  have hlong : s.long = if s.kind = 3 then s.size else (s.bytes.length : Int) := rfl
  have HL := hidden hlong
  clear hlong h1 h2 hB hfit
  generalize hlg : s.long = lg at HL ⊢
  clear hlg
  obtain ⟨nm, k, al, bs, sz, fs⟩ := s
  simp only [Sx.agg] at HF HB HL hl ⊢
  generalize bs.length = nb at HF HB HL hl ⊢
  generalize fs.length = nf at HF HB HL ⊢
  have m1 : ∀ w : World, (method 279 133 (.agg #[]) "loop.example/objectlinker/impl.size").run Tryz.prog w = .ok (127, .agg #[]) w := fun _ => by kernel_rfl
  have m2 : ∀ w : World, (method 279 134 (.agg #[]) "loop.example/objectlinker/impl.size").run Tryz.prog w = .ok (127, .agg #[]) w := fun _ => by kernel_rfl
  have m3 : ∀ w : World, (method 279 135 (.agg #[]) "loop.example/objectlinker/impl.size").run Tryz.prog w = .ok (131, .agg #[]) w := fun _ => by kernel_rfl
  rcases (show k = 1 ∨ k = 2 ∨ k = 3 ∨ (k ≠ 1 ∧ k ≠ 2 ∧ k ≠ 3) by omega) with rfl | rfl | rfl | ⟨h1, h2, h3⟩
  · have HG : Hid (lg = (nb : Int)) := by show _ = _; rw [HL.out]; rfl
    clear HL HB m2 m3
    go_enter Tryz.func55, Tryz.ntmps55
    go_wp2_with fail
    refine (kindOf_1 _).mono ?_
    rintro e w1 ⟨rfl, rfl⟩
    go_wp2_with fail
    refine (HF.out _).mono ?_
    rintro e w2 ⟨rfl, hb⟩
    go_wp2_with fail
    go_ret
    exact ⟨ret_int HG.out.symm, ((Below.refl _ _).alloc (Nat.le_refl _) _).trans (hb.mono (by simp))⟩
  · have HG : Hid (lg = (nb : Int)) := by show _ = _; rw [HL.out]; rfl
    clear HL HB m1 m3
    go_enter Tryz.func55, Tryz.ntmps55
    go_wp2_with fail
    refine (kindOf_2 _).mono ?_
    rintro e w1 ⟨rfl, rfl⟩
    go_wp2_with fail
    refine (HF.out _).mono ?_
    rintro e w2 ⟨rfl, hb⟩
    go_wp2_with fail
    go_ret
    exact ⟨ret_int HG.out.symm, ((Below.refl _ _).alloc (Nat.le_refl _) _).trans (hb.mono (by simp))⟩
  · have HG : Hid (lg = sz) := by show _ = _; rw [HL.out]; rfl
    clear HL HF m1 m2
    go_enter Tryz.func55, Tryz.ntmps55
    go_wp2_with fail
    refine (kindOf_3 _).mono ?_
    rintro e w1 ⟨rfl, rfl⟩
    go_wp2_with fail
    refine (HB.out _).mono ?_
    rintro e w2 ⟨rfl, hb⟩
    go_wp2_with fail
    go_ret
    exact ⟨ret_int HG.out.symm, ((Below.refl _ _).alloc (Nat.le_refl _) _).trans (hb.mono (by simp))⟩
  · have HG : Hid (lg = (nb : Int)) := by show _ = _; rw [HL.out, if_neg h3]
    have e1 : (k == 1) = false := by simpa using h1
    have e2 : (k == 2) = false := by simpa using h2
    have e3 : (k == 3) = false := by simpa using h3
    have HO := hidden (fun W => kindOf_no W k e1 e2 e3)
    clear HL HB HF m1 m2 m3 h1 h2 h3 e1 e2 e3
    go_enter Tryz.func55, Tryz.ntmps55
    go_wp2_with fail
    refine (HO.out _).mono ?_
    rintro e w1 ⟨rfl, rfl⟩
    go_wp2_with fail
    go_ret
    exact ⟨ret_int HG.out.symm, (Below.refl _ _).alloc (Nat.le_refl _) _⟩

end Go.Proofs.YtjafekjcncmjjaaGreat
/- The program's fixups of a section, one behind the other. -/
namespace Go.Proofs.YtjafekjcncmjjaaGreat
open Go.RowKit

set_option maxHeartbeats 2000000 in
theorem fixupsValid_any (w : World) (B : Nat) (fs : List Fx) (many : Int) (nb : Nat) (a2 : Option Addr) (c2 : Nat) (h2 : Fixs w B a2 fs) (hB : B ≤ w.heap.size) (hnb : (nb : Int) ≤ 9223372036854775807) (hnf : fs.length ≤ 9223372036854775807) :
    Calls Tryz.prog 129 #[.slice a2 fs.length c2, .int .i64 nb, .int .i64 many] w fun e w' => e = .returned (.bool (fixsOk nb many 0 fs)) ∧ Below w.heap.size w w' := by
  obtain ⟨nf, hn⟩ : ∃ n, n = fs.length := ⟨_, rfl⟩
  rw [← hn] at hnf ⊢
  have HNF := hidden hn
  have H2 := hidden h2
  clear hn h2
  go_enter Tryz.func129, Tryz.ntmps129
  go_wp2_with fail
  go_loopw [7, 13] (fun en i wr => ∃ (k : Nat) (e : Int), i = .int .i64 k ∧ en = .int .i64 e ∧ k ≤ nf ∧ 0 ≤ e ∧ e ≤ nb ∧ Hid (fixsOk nb many 0 fs = fixsOk nb many e (fs.drop k)) ∧ Below w.heap.size w wr) (fun _ i _ => nf - (intOf i).toNat)
  case atStart => exact ⟨0, 0, rfl, rfl, Nat.zero_le _, by omega, by omega, hidden (by simp), Below.refl _ _⟩
  case round =>
    obtain ⟨k, e, rfl, rfl, hk, he0, he1, hfo, hbx⟩ := hrel
    by_cases hlt : k < nf
    · have hi : (k : Int) < (nf : Int) := by omega
      have hkl : k < fs.length := by rw [← HNF.out]; exact hlt
      obtain ⟨b2, o2, rfl, _, p0, p1, p2, p3⟩ := (H2.out.below (hbx.mono hB)).at_ hkl
      obtain ⟨g, hfk⟩ : ∃ g, fs[k] = g := ⟨_, rfl⟩
      rw [hfk] at p0 p1 p2 p3
      have HD : Hid (fs.drop k = g :: fs.drop (k + 1)) := by show _ = _; rw [List.drop_eq_getElem_cons hkl, hfk]
      obtain ⟨pl, gk, to, ad⟩ := g
      simp only at p0 p1 p2 p3
      have HFW := hidden (fun W => fixupWide_below W gk)
      have HG : Hid (fixsOk nb many 0 fs = (fixOk nb many e ⟨pl, gk, to, ad⟩ && fixsOk nb many (pl + wideOf gk) (fs.drop (k + 1)))) := by
        show _ = _; rw [hfo.out, HD.out]; rfl
      obtain ⟨w0, w4⟩ := wideOf_bounds gk
      obtain ⟨wd, hwd⟩ : ∃ x, wideOf gk = x := ⟨_, rfl⟩
      rw [hwd] at HFW HG w0 w4
      have HGO : Hid (fixOk nb many e ⟨pl, gk, to, ad⟩ = (decide (wd ≠ 0) && decide (0 ≤ to) && decide (to < many) && decide (-1000 ≤ ad ∧ ad ≤ 1000) && decide (e ≤ pl ∧ pl ≤ nb - wd))) := by
        show _ = _; unfold fixOk; simp only [hwd]
      clear hfk hkl hfo HD hwd
      go_wp2_with fail
      refine (HFW.out _).mono ?_
      clear HFW
      rintro e3 w3 ⟨rfl, hb3⟩
      have s1 : (wr.alloc (.cells #[.int .i64 pl, .int .i64 gk, .int .i64 to, .int .i64 ad] 58)).heap.size = wr.heap.size + 1 := by simp
      have hb4 : Below wr.heap.size wr w3 := ((Below.refl _ _).alloc (Nat.le_refl _) _).trans (hb3.mono (by rw [s1]; omega))
      have RX : ∀ j, w3.cell? ⟨wr.heap.size, j, none⟩ = (#[.int .i64 pl, .int .i64 gk, .int .i64 to, .int .i64 ad] : Array Value)[j]? := fun j => by
        rw [hb3.cell (by show wr.heap.size < _; rw [s1]; omega)]
        exact (Has.new wr 58 _).cell j
      have r0 : w3.cell? ⟨wr.heap.size, 0, none⟩ = some (.int .i64 pl) := RX 0
      have r2 : w3.cell? ⟨wr.heap.size, 2, none⟩ = some (.int .i64 to) := RX 2
      have r3 : w3.cell? ⟨wr.heap.size, 3, none⟩ = some (.int .i64 ad) := RX 3
      have hbx4 : Below w.heap.size w w3 := hbx.trans (hb4.mono hbx.size)
      clear RX s1 hb3 hb4 p0 p1 p2 p3 hbx
      by_cases z0 : wd = 0
      · have z0' : (wd == 0) = true := by simp [z0]
        have HF : Hid (fixsOk nb many 0 fs = false) := by show _ = _; rw [HG.out, HGO.out]; simp [z0]
        clear HG HGO z0
        go_wp2_with fail
        go_ret
        exact ⟨ret_bool HF.out.symm, hbx4⟩
      have z0' : (wd == 0) = false := by simpa using z0
      by_cases z5 : pl < e
      · have HF : Hid (fixsOk nb many 0 fs = false) := by show _ = _; rw [HG.out, HGO.out]; simp; omega
        clear HG HGO z0
        go_wp2_with fail
        go_ret
        exact ⟨ret_bool HF.out.symm, hbx4⟩
      by_cases z6 : (nb : Int) - wd < pl
      · have HF : Hid (fixsOk nb many 0 fs = false) := by show _ = _; rw [HG.out, HGO.out]; simp; omega
        clear HG HGO z0
        go_wp2_with fail
        go_ret
        exact ⟨ret_bool HF.out.symm, hbx4⟩
      by_cases z1 : to < 0
      · have HF : Hid (fixsOk nb many 0 fs = false) := by show _ = _; rw [HG.out, HGO.out]; simp; omega
        clear HG HGO z0
        go_wp2_with fail
        go_ret
        exact ⟨ret_bool HF.out.symm, hbx4⟩
      by_cases z2 : many ≤ to
      · have HF : Hid (fixsOk nb many 0 fs = false) := by show _ = _; rw [HG.out, HGO.out]; simp; omega
        clear HG HGO z0
        go_wp2_with fail
        go_ret
        exact ⟨ret_bool HF.out.symm, hbx4⟩
      by_cases z3 : ad < -1000
      · have HF : Hid (fixsOk nb many 0 fs = false) := by show _ = _; rw [HG.out, HGO.out]; simp; omega
        clear HG HGO z0
        go_wp2_with fail
        go_ret
        exact ⟨ret_bool HF.out.symm, hbx4⟩
      by_cases z4 : 1000 < ad
      · have HF : Hid (fixsOk nb many 0 fs = false) := by show _ = _; rw [HG.out, HGO.out]; simp; omega
        clear HG HGO z0
        go_wp2_with fail
        go_ret
        exact ⟨ret_bool HF.out.symm, hbx4⟩
      have HN : Hid (fixsOk nb many 0 fs = fixsOk nb many (pl + wd) (fs.drop (k + 1))) := by
        show _ = _
        have : fixOk nb many e ⟨pl, gk, to, ad⟩ = true := by rw [HGO.out]; simp; omega
        rw [HG.out, this, Bool.true_and]
      clear HG HGO z0
      go_wp2_with fail
      go_roundw
      case rel => exact ⟨k + 1, pl + wd, by go_num, by go_num, by omega, by omega, by omega, HN, hbx4⟩
      case measure => simp [intOf]; omega
    · have hi : ¬ (k : Int) < (nf : Int) := by omega
      have HF : Hid (fixsOk nb many 0 fs = true) := by
        show _ = _
        have hd : fs.drop k = [] := List.drop_eq_nil_of_le (by rw [← HNF.out]; omega)
        rw [hfo.out, hd]; simp [fixsOk]
      clear hfo
      go_wp2_with fail
      go_ret
      exact ⟨ret_bool HF.out.symm, hbx⟩

end Go.Proofs.YtjafekjcncmjjaaGreat
/- The program's valid sections. -/
namespace Go.Proofs.YtjafekjcncmjjaaGreat
open Go.RowKit

set_option maxHeartbeats 1000000 in
theorem filledValid_any (w : World) (B : Nat) (s : Sx) (many : Int) (a1 : Option Addr) (c1 : Nat) (a2 : Option Addr) (c2 : Nat) (h2 : Fixs w B a2 s.fixs) (hB : B ≤ w.heap.size) (hl1 : s.bytes.length ≤ 9223372036854775807) (hl2 : s.fixs.length ≤ 9223372036854775807) :
    Calls Tryz.prog 128 #[.agg #[], s.agg a1 c1 a2 c2, .int .i64 many] w fun e w' => e = .returned (.bool (decide (s.size = 0) && decide (s.bytes.length ≤ 48) && decide (s.fixs.length ≤ 6) && fixsOk s.bytes.length many 0 s.fixs)) ∧ Below w.heap.size w w' := by
  obtain ⟨nm, k, al, bs, sz, fs⟩ := s
  unfold Sx.agg
  simp only at h2 hl1 hl2 ⊢
  have HFV := hidden (fun (W : World) (hw : Below w.heap.size w W) => fixupsValid_any W B fs many bs.length a2 c2 (h2.below (hw.mono hB)) (Nat.le_trans hB hw.size) (by omega) hl2)
  generalize bs.length = nb at HFV hl1 ⊢
  generalize fs.length = nf at HFV hl2 ⊢
  obtain ⟨fo, hfo⟩ : ∃ b, b = fixsOk nb many 0 fs := ⟨_, rfl⟩
  rw [← hfo] at HFV ⊢
  clear hfo h2
  obtain ⟨ok, hok⟩ : ∃ b, b = (decide (sz = 0) && decide (nb ≤ 48) && decide (nf ≤ 6) && fo) := ⟨_, rfl⟩
  rw [← hok]
  have HOK := hidden hok
  clear hok
  have hbw : Below w.heap.size w ((w.alloc (.cells #[] 131)).alloc (.cells #[.string nm, .int .i64 k, .int .i64 al, .slice a1 nb c1, .int .i64 sz, .slice a2 nf c2] 51)) := ((Below.refl _ _).alloc (Nat.le_refl _) _).alloc (by simp) _
  by_cases z0 : sz = 0
  case neg =>
    have z0' : (sz == 0) = false := by simpa using z0
    have HF : Hid (ok = false) := by show _ = _; rw [HOK.out]; simp [z0]
    clear HOK HFV z0
    go_enter Tryz.func128, Tryz.ntmps128
    go_wp2_with fail
    go_ret
    exact ⟨ret_bool HF.out.symm, hbw⟩
  have z0' : (sz == 0) = true := by simp [z0]
  by_cases hb : (nb : Int) ≤ 48
  case neg =>
    have HF : Hid (ok = false) := by show _ = _; rw [HOK.out]; simp; omega
    clear HOK HFV z0
    go_enter Tryz.func128, Tryz.ntmps128
    go_wp2_with fail
    go_ret
    exact ⟨ret_bool HF.out.symm, hbw⟩
  by_cases hf : (nf : Int) ≤ 6
  case neg =>
    have HF : Hid (ok = false) := by show _ = _; rw [HOK.out]; simp; omega
    clear HOK HFV z0
    go_enter Tryz.func128, Tryz.ntmps128
    go_wp2_with fail
    go_ret
    exact ⟨ret_bool HF.out.symm, hbw⟩
  have HF : Hid (ok = fo) := by show _ = _; rw [HOK.out]; have : nb ≤ 48 := by omega
                                have : nf ≤ 6 := by omega
                                simp [*]
  clear HOK z0
  go_enter Tryz.func128, Tryz.ntmps128
  go_wp2_with fail
  refine (HFV.out _ hbw).mono ?_
  rintro e w1 ⟨rfl, hb1⟩
  go_wp2_with fail
  go_ret
  exact ⟨ret_bool HF.out.symm, hbw.trans (hb1.mono hbw.size)⟩
set_option maxHeartbeats 1000000 in
theorem blankValid_any (w : World) (s : Sx) (many : Int) (a1 : Option Addr) (c1 : Nat) (a2 : Option Addr) (c2 : Nat) (hl1 : s.bytes.length ≤ 9223372036854775807) (hl2 : s.fixs.length ≤ 9223372036854775807) :
    Calls Tryz.prog 132 #[.agg #[], s.agg a1 c1 a2 c2, .int .i64 many] w fun e w' => e = .returned (.bool (decide (0 ≤ s.size ∧ s.size ≤ 48) && decide (s.bytes.length = 0) && decide (s.fixs.length = 0))) ∧ Below w.heap.size w w' := by
  obtain ⟨nm, k, al, bs, sz, fs⟩ := s
  unfold Sx.agg
  simp only at hl1 hl2 ⊢
  generalize bs.length = nb at hl1 ⊢
  generalize fs.length = nf at hl2 ⊢
  obtain ⟨ok, hok⟩ : ∃ b, b = (decide (0 ≤ sz ∧ sz ≤ 48) && decide (nb = 0) && decide (nf = 0)) := ⟨_, rfl⟩
  rw [← hok]
  have HOK := hidden hok
  clear hok
  have hbw : Below w.heap.size w ((w.alloc (.cells #[] 135)).alloc (.cells #[.string nm, .int .i64 k, .int .i64 al, .slice a1 nb c1, .int .i64 sz, .slice a2 nf c2] 51)) := ((Below.refl _ _).alloc (Nat.le_refl _) _).alloc (by simp) _
  by_cases s0 : 0 ≤ sz
  case neg =>
    have HF : Hid (ok = false) := by show _ = _; rw [HOK.out]; simp; omega
    clear HOK
    go_enter Tryz.func132, Tryz.ntmps132
    go_wp2_with fail
    go_ret
    exact ⟨ret_bool HF.out.symm, hbw⟩
  by_cases s1 : sz ≤ 48
  case neg =>
    have HF : Hid (ok = false) := by show _ = _; rw [HOK.out]; simp; omega
    clear HOK
    go_enter Tryz.func132, Tryz.ntmps132
    go_wp2_with fail
    go_ret
    exact ⟨ret_bool HF.out.symm, hbw⟩
  by_cases b0 : nb = 0
  case neg =>
    have b0' : ((nb : Int) == 0) = false := by simp; omega
    have HF : Hid (ok = false) := by show _ = _; rw [HOK.out]; simp [b0]
    clear HOK b0
    go_enter Tryz.func132, Tryz.ntmps132
    go_wp2_with fail
    go_ret
    exact ⟨ret_bool HF.out.symm, hbw⟩
  have b0' : ((nb : Int) == 0) = true := by simp [b0]
  by_cases f0 : nf = 0
  case neg =>
    have f0' : ((nf : Int) == 0) = false := by simp; omega
    have HF : Hid (ok = false) := by show _ = _; rw [HOK.out]; simp [f0]
    clear HOK b0 f0
    go_enter Tryz.func132, Tryz.ntmps132
    go_wp2_with fail
    go_ret
    exact ⟨ret_bool HF.out.symm, hbw⟩
  have f0' : ((nf : Int) == 0) = true := by simp [f0]
  have HF : Hid (ok = true) := by show _ = _; rw [HOK.out]; simp [b0, f0, s0, s1]
  clear HOK b0 f0
  go_enter Tryz.func132, Tryz.ntmps132
  go_wp2_with fail
  go_ret
  exact ⟨ret_bool HF.out.symm, hbw⟩
set_option maxHeartbeats 2000000 in
theorem wantSectionValid : WantSectionValid := by
  intro w B s many a1 c1 a2 c2 h1 h2 hB hfit hmany
  have hl1 := hfit.bytes
  have hl2 := hfit.count
  have hname := hfit.name
  have HFV := hidden (fun (W : World) (hw : Below w.heap.size w W) => filledValid_any W B s many a1 c1 a2 c2 (h2.below (hw.mono hB)) (Nat.le_trans hB hw.size) hl1 hl2)
  have HBV := hidden (fun (W : World) (_ : Below w.heap.size w W) => blankValid_any W s many a1 c1 a2 c2 hl1 hl2)
  clear h1 h2 hB hfit
  obtain ⟨nm, k, al, bs, sz, fs⟩ := s
  simp only [Sx.agg] at HFV HBV hl1 hl2 hname ⊢
  have HNV := hidden (fun W => nameValid_any nm W hname)
  have HAV := hidden (fun W => alignValid_any W al)
  obtain ⟨ok, hok⟩ : ∃ ok, ok = sectOk ⟨nm, k, al, bs, sz, fs⟩ many := ⟨_, rfl⟩
  have HOK : Hid (ok = (nameOk nm.data.toList && decide (1 ≤ k ∧ k ≤ 3) && decide (al = 1 ∨ al = 2 ∨ al = 4 ∨ al = 8) && decide (bs.length ≤ 48) && decide (fs.length ≤ 6) && decide (0 ≤ sz ∧ sz ≤ 48) &&
      (if k = 3 then decide (bs.length = 0) && decide (fs.length = 0) else fixsOk bs.length many 0 fs && decide (sz = 0)))) := by
    show _ = _; rw [hok]; rfl
  rw [← hok]
  clear hok
  generalize bs.length = nb at HFV HBV HOK hl1 ⊢
  generalize fs.length = nf at HFV HBV HOK hl2 ⊢
  generalize fixsOk nb many 0 fs = fo at HFV HOK
  have hbw : Below w.heap.size w (w.alloc (.cells #[.string nm, .int .i64 k, .int .i64 al, .slice a1 nb c1, .int .i64 sz, .slice a2 nf c2] 51)) := (Below.refl _ _).alloc (Nat.le_refl _) _
  rcases (show k = 1 ∨ k = 2 ∨ k = 3 ∨ (k ≠ 1 ∧ k ≠ 2 ∧ k ≠ 3) by omega) with rfl | rfl | rfl | ⟨h1, h2, h3⟩
  · have m0 : ∀ w : World, (method 279 133 (.agg #[]) "loop.example/objectlinker/impl.valid").run Tryz.prog w = .ok (128, .agg #[]) w := fun _ => by kernel_rfl
    rcases hnn : nameOk nm.data.toList with _ | _
    · rw [hnn] at HNV HOK
      have HF : Hid (ok = false) := by show _ = _; rw [HOK.out]; simp
      clear HOK HFV HBV hnn
      go_enter Tryz.func78, Tryz.ntmps78
      go_wp2_with fail
      refine (kindOf_1 _).mono ?_
      rintro e w1 ⟨rfl, rfl⟩
      go_wp2_with fail
      refine (HNV.out _).mono ?_
      rintro e w1 ⟨rfl, rfl⟩
      go_wp2_with fail
      go_ret
      exact ⟨ret_bool HF.out.symm, hbw⟩
    rw [hnn] at HNV HOK
    rcases hal : decide (al = 1 ∨ al = 2 ∨ al = 4 ∨ al = 8) with _ | _
    · rw [hal] at HAV HOK
      have HF : Hid (ok = false) := by show _ = _; rw [HOK.out]; simp
      clear HOK HFV HBV hnn hal
      go_enter Tryz.func78, Tryz.ntmps78
      go_wp2_with fail
      refine (kindOf_1 _).mono ?_
      rintro e w1 ⟨rfl, rfl⟩
      go_wp2_with fail
      refine (HNV.out _).mono ?_
      rintro e w1 ⟨rfl, rfl⟩
      go_wp2_with fail
      refine (HAV.out _).mono ?_
      rintro e w1 ⟨rfl, rfl⟩
      go_wp2_with fail
      go_ret
      exact ⟨ret_bool HF.out.symm, hbw⟩
    rw [hal] at HAV HOK
    have HF := hidden (show ok = (decide (sz = 0) && decide (nb ≤ 48) && decide (nf ≤ 6) && fo) by rw [HOK.out]; cases fo <;> first | (simp; done) | (rw [Bool.eq_iff_iff]; simp; omega))
    clear HOK hnn hal
    go_enter Tryz.func78, Tryz.ntmps78
    go_wp2_with fail
    refine (kindOf_1 _).mono ?_
    rintro e w1 ⟨rfl, rfl⟩
    go_wp2_with fail
    refine (HNV.out _).mono ?_
    rintro e w1 ⟨rfl, rfl⟩
    go_wp2_with fail
    refine (HAV.out _).mono ?_
    rintro e w1 ⟨rfl, rfl⟩
    go_wp2_with fail
    refine (HFV.out _ hbw).mono ?_
    rintro e w1 ⟨rfl, hb1⟩
    go_wp2_with fail
    go_ret
    exact ⟨ret_bool HF.out.symm, hbw.trans (hb1.mono hbw.size)⟩
  · have m0 : ∀ w : World, (method 279 134 (.agg #[]) "loop.example/objectlinker/impl.valid").run Tryz.prog w = .ok (128, .agg #[]) w := fun _ => by kernel_rfl
    rcases hnn : nameOk nm.data.toList with _ | _
    · rw [hnn] at HNV HOK
      have HF : Hid (ok = false) := by show _ = _; rw [HOK.out]; simp
      clear HOK HFV HBV hnn
      go_enter Tryz.func78, Tryz.ntmps78
      go_wp2_with fail
      refine (kindOf_2 _).mono ?_
      rintro e w1 ⟨rfl, rfl⟩
      go_wp2_with fail
      refine (HNV.out _).mono ?_
      rintro e w1 ⟨rfl, rfl⟩
      go_wp2_with fail
      go_ret
      exact ⟨ret_bool HF.out.symm, hbw⟩
    rw [hnn] at HNV HOK
    rcases hal : decide (al = 1 ∨ al = 2 ∨ al = 4 ∨ al = 8) with _ | _
    · rw [hal] at HAV HOK
      have HF : Hid (ok = false) := by show _ = _; rw [HOK.out]; simp
      clear HOK HFV HBV hnn hal
      go_enter Tryz.func78, Tryz.ntmps78
      go_wp2_with fail
      refine (kindOf_2 _).mono ?_
      rintro e w1 ⟨rfl, rfl⟩
      go_wp2_with fail
      refine (HNV.out _).mono ?_
      rintro e w1 ⟨rfl, rfl⟩
      go_wp2_with fail
      refine (HAV.out _).mono ?_
      rintro e w1 ⟨rfl, rfl⟩
      go_wp2_with fail
      go_ret
      exact ⟨ret_bool HF.out.symm, hbw⟩
    rw [hal] at HAV HOK
    have HF := hidden (show ok = (decide (sz = 0) && decide (nb ≤ 48) && decide (nf ≤ 6) && fo) by rw [HOK.out]; cases fo <;> first | (simp; done) | (rw [Bool.eq_iff_iff]; simp; omega))
    clear HOK hnn hal
    go_enter Tryz.func78, Tryz.ntmps78
    go_wp2_with fail
    refine (kindOf_2 _).mono ?_
    rintro e w1 ⟨rfl, rfl⟩
    go_wp2_with fail
    refine (HNV.out _).mono ?_
    rintro e w1 ⟨rfl, rfl⟩
    go_wp2_with fail
    refine (HAV.out _).mono ?_
    rintro e w1 ⟨rfl, rfl⟩
    go_wp2_with fail
    refine (HFV.out _ hbw).mono ?_
    rintro e w1 ⟨rfl, hb1⟩
    go_wp2_with fail
    go_ret
    exact ⟨ret_bool HF.out.symm, hbw.trans (hb1.mono hbw.size)⟩
  · have m0 : ∀ w : World, (method 279 135 (.agg #[]) "loop.example/objectlinker/impl.valid").run Tryz.prog w = .ok (132, .agg #[]) w := fun _ => by kernel_rfl
    rcases hnn : nameOk nm.data.toList with _ | _
    · rw [hnn] at HNV HOK
      have HF : Hid (ok = false) := by show _ = _; rw [HOK.out]; simp
      clear HOK HFV HBV hnn
      go_enter Tryz.func78, Tryz.ntmps78
      go_wp2_with fail
      refine (kindOf_3 _).mono ?_
      rintro e w1 ⟨rfl, rfl⟩
      go_wp2_with fail
      refine (HNV.out _).mono ?_
      rintro e w1 ⟨rfl, rfl⟩
      go_wp2_with fail
      go_ret
      exact ⟨ret_bool HF.out.symm, hbw⟩
    rw [hnn] at HNV HOK
    rcases hal : decide (al = 1 ∨ al = 2 ∨ al = 4 ∨ al = 8) with _ | _
    · rw [hal] at HAV HOK
      have HF : Hid (ok = false) := by show _ = _; rw [HOK.out]; simp
      clear HOK HFV HBV hnn hal
      go_enter Tryz.func78, Tryz.ntmps78
      go_wp2_with fail
      refine (kindOf_3 _).mono ?_
      rintro e w1 ⟨rfl, rfl⟩
      go_wp2_with fail
      refine (HNV.out _).mono ?_
      rintro e w1 ⟨rfl, rfl⟩
      go_wp2_with fail
      refine (HAV.out _).mono ?_
      rintro e w1 ⟨rfl, rfl⟩
      go_wp2_with fail
      go_ret
      exact ⟨ret_bool HF.out.symm, hbw⟩
    rw [hal] at HAV HOK
    have HF := hidden (show ok = (decide (0 ≤ sz ∧ sz ≤ 48) && decide (nb = 0) && decide (nf = 0)) by rw [HOK.out]; rw [Bool.eq_iff_iff]; simp; omega)
    clear HOK hnn hal
    go_enter Tryz.func78, Tryz.ntmps78
    go_wp2_with fail
    refine (kindOf_3 _).mono ?_
    rintro e w1 ⟨rfl, rfl⟩
    go_wp2_with fail
    refine (HNV.out _).mono ?_
    rintro e w1 ⟨rfl, rfl⟩
    go_wp2_with fail
    refine (HAV.out _).mono ?_
    rintro e w1 ⟨rfl, rfl⟩
    go_wp2_with fail
    refine (HBV.out _ hbw).mono ?_
    rintro e w1 ⟨rfl, hb1⟩
    go_wp2_with fail
    go_ret
    exact ⟨ret_bool (by rw [HF.out]; simp), hbw.trans (hb1.mono hbw.size)⟩
  · have HF : Hid (ok = false) := by show _ = _; rw [HOK.out]; simp; omega
    have e1 : (k == 1) = false := by simpa using h1
    have e2 : (k == 2) = false := by simpa using h2
    have e3 : (k == 3) = false := by simpa using h3
    have HO := hidden (fun W => kindOf_no W k e1 e2 e3)
    clear HOK HFV HBV HNV HAV h1 h2 h3 e1 e2 e3
    go_enter Tryz.func78, Tryz.ntmps78
    go_wp2_with fail
    refine (HO.out _).mono ?_
    rintro e w1 ⟨rfl, rfl⟩
    go_wp2_with fail
    go_ret
    exact ⟨ret_bool HF.out.symm, hbw⟩

end Go.Proofs.YtjafekjcncmjjaaGreat

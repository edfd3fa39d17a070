/-
  The program's functions of chapter 3: kinds of sections behind an interface. The program's fixups of a section, one behind the other. The program's valid sections. impl.SymbolValid. A set of names on the heap. The two halves of what a valid object is: its parts, and its names. A map from names to symbols on the heap. impl.partsValid, impl.openSymbols and impl.ObjectValid: a valid object's symbols that are not local lie in a map by their names.
-/
import Derived.Deep.Cut
import Derived.Deep.CutRange
import Derived.IntWalk
import Derived.StringKeys
import Derived.Maps.OwnSet
import Derived.Maps.AppendAt
import Derived.Carry
import Derived.Maps.RangeWalk
import Derived.Test.YtiocchmlmcoieaaWant3
import Derived.Test.YtiocchmlmcoieaaTabI
import Derived.Test.YtiocchmlmcoieaaWant4
import Derived.Test.YtiocchmlmcoieaaRegionV
import Derived.Test.YtiocchmlmcoieaaRows
import Derived.Test.YtiocchmlmcoieaaMem
import Derived.Test.YtiocchmlmcoieaaSortP
/- The program's functions of chapter 3: kinds of sections behind an interface. The program's fixups of a section, one behind the other. The program's valid sections. -/
/- The program's functions of chapter 3: kinds of sections behind an interface. -/
namespace Go.Proofs.Ytiocchmlmcoieaa
open Go.RowKit

theorem fixupWide_any (w : World) (k : Int) :
    Calls Try.prog 115 #[.int .i64 k] w fun e w' => e = .returned (.int .i64 (wideOf k)) ∧ w = w' := by
  rcases (show k = 1 ∨ k = 2 ∨ k = 3 ∨ (k ≠ 1 ∧ k ≠ 2 ∧ k ≠ 3) by omega) with rfl | rfl | rfl | ⟨h1, h2, h3⟩
  · go_enter Try.func115, Try.ntmps115
    go_wp2
    go_ret
    exact ⟨rfl, rfl⟩
  · go_enter Try.func115, Try.ntmps115
    go_wp2
    go_ret
    exact ⟨rfl, rfl⟩
  · go_enter Try.func115, Try.ntmps115
    go_wp2
    go_ret
    exact ⟨rfl, rfl⟩
  · have e : wideOf k = 0 := by unfold wideOf; rw [if_neg h1, if_neg h2, if_neg h3]
    rw [e]; clear e
    have e1 : (k == 1) = false := by simpa using h1
    have e2 : (k == 2) = false := by simpa using h2
    have e3 : (k == 3) = false := by simpa using h3
    clear h1 h2 h3
    go_enter Try.func115, Try.ntmps115
    go_wp2
    go_ret
    exact ⟨rfl, rfl⟩
theorem wantFixupWide : WantFixupWide := fun w k _ => (fixupWide_any w k).mono fun _ _ h => ⟨h.1, h.2 ▸ Below.refl _ _⟩
theorem kindOf_1 (w : World) :
    Calls Try.prog 38 #[.int .i64 1] w fun e w' => e = .returned (.tuple #[.iface 101 (.agg #[]), .bool true]) ∧ w = w' := by
  go_enter Try.func38, Try.ntmps38
  go_wp2
  go_ret2
  exact ⟨rfl, rfl⟩
theorem kindOf_2 (w : World) :
    Calls Try.prog 38 #[.int .i64 2] w fun e w' => e = .returned (.tuple #[.iface 102 (.agg #[]), .bool true]) ∧ w = w' := by
  go_enter Try.func38, Try.ntmps38
  go_wp2
  go_ret2
  exact ⟨rfl, rfl⟩
theorem kindOf_3 (w : World) :
    Calls Try.prog 38 #[.int .i64 3] w fun e w' => e = .returned (.tuple #[.iface 103 (.agg #[]), .bool true]) ∧ w = w' := by
  go_enter Try.func38, Try.ntmps38
  go_wp2
  go_ret2
  exact ⟨rfl, rfl⟩
theorem kindOf_no (w : World) (k : Int) (h1 : (k == 1) = false) (h2 : (k == 2) = false) (h3 : (k == 3) = false) :
    Calls Try.prog 38 #[.int .i64 k] w fun e w' => e = .returned (.tuple #[.nilIface, .bool false]) ∧ w = w' := by
  go_enter Try.func38, Try.ntmps38
  go_wp2
  go_ret2
  exact ⟨rfl, rfl⟩
theorem fixupWide_below (w : World) (k : Int) :
    Calls Try.prog 115 #[.int .i64 k] w fun e w' => e = .returned (.int .i64 (wideOf k)) ∧ Below w.heap.size w w' :=
  (fixupWide_any w k).mono fun _ _ h => ⟨h.1, h.2 ▸ Below.refl _ _⟩
theorem alignValid_any (w : World) (al : Int) :
    Calls Try.prog 54 #[.int .i64 al] w fun e w' => e = .returned (.bool (decide (al = 1 ∨ al = 2 ∨ al = 4 ∨ al = 8))) ∧ w = w' := by
  by_cases h : al = 1 ∨ al = 2 ∨ al = 4 ∨ al = 8
  · rcases h with rfl | rfl | rfl | rfl
    · exact alignValid_1 w
    · exact alignValid_2 w
    · exact alignValid_4 w
    · exact alignValid_8 w
  · have e : decide (al = 1 ∨ al = 2 ∨ al = 4 ∨ al = 8) = false := by simpa using h
    rw [e]
    exact alignValid_no al (by simp; omega) (by simp; omega) (by simp; omega) (by simp; omega) w
theorem filledSize_any (w : World) (s : Sx) (a1 : Option Addr) (c1 : Nat) (a2 : Option Addr) (c2 : Nat) (hl : s.bytes.length ≤ 9223372036854775807) :
    Calls Try.prog 112 #[.agg #[], s.agg a1 c1 a2 c2] w fun e w' => e = .returned (.int .i64 (s.bytes.length : Int)) ∧ Below w.heap.size w w' := by
  obtain ⟨nm, k, al, bs, sz, fs⟩ := s
  unfold Sx.agg
  simp only at hl ⊢
  generalize bs.length = nb at hl ⊢
  generalize fs.length = nf
  go_enter Try.func112, Try.ntmps112
  go_wp2
  go_ret
  exact ⟨rfl, ((Below.refl _ _).alloc (Nat.le_refl _) _).alloc (by simp) _⟩
theorem blankSize_any (w : World) (s : Sx) (a1 : Option Addr) (c1 : Nat) (a2 : Option Addr) (c2 : Nat) :
    Calls Try.prog 116 #[.agg #[], s.agg a1 c1 a2 c2] w fun e w' => e = .returned (.int .i64 s.size) ∧ Below w.heap.size w w' := by
  obtain ⟨nm, k, al, bs, sz, fs⟩ := s
  unfold Sx.agg
  simp only
  generalize bs.length = nb
  generalize fs.length = nf
  go_enter Try.func116, Try.ntmps116
  go_wp2
  go_ret
  exact ⟨rfl, ((Below.refl _ _).alloc (Nat.le_refl _) _).alloc (by simp) _⟩
set_option maxHeartbeats 1000000 in
theorem wantSectionSize : WantSectionSize := by
  intro w B s a1 c1 a2 c2 h1 h2 hB hfit
  have hl := hfit.bytes
  have HF := hidden (fun W => filledSize_any W s a1 c1 a2 c2 hl)
  have HB := hidden (fun W => blankSize_any W s a1 c1 a2 c2)
  have hlong : s.long = if s.kind = 3 then s.size else (s.bytes.length : Int) := rfl
  have HL := hidden hlong
  clear hlong h1 h2 hB hfit
  generalize hlg : s.long = lg at HL ⊢
  clear hlg
  obtain ⟨nm, k, al, bs, sz, fs⟩ := s
  simp only [Sx.agg] at HF HB HL hl ⊢
  generalize bs.length = nb at HF HB HL hl ⊢
  generalize fs.length = nf at HF HB HL ⊢
  have m1 : ∀ w : World, (method 264 101 (.agg #[]) "loop.example/objectlinker/impl.size").run Try.prog w = .ok (112, .agg #[]) w := fun _ => by kernel_rfl
  have m2 : ∀ w : World, (method 264 102 (.agg #[]) "loop.example/objectlinker/impl.size").run Try.prog w = .ok (112, .agg #[]) w := fun _ => by kernel_rfl
  have m3 : ∀ w : World, (method 264 103 (.agg #[]) "loop.example/objectlinker/impl.size").run Try.prog w = .ok (116, .agg #[]) w := fun _ => by kernel_rfl
  rcases (show k = 1 ∨ k = 2 ∨ k = 3 ∨ (k ≠ 1 ∧ k ≠ 2 ∧ k ≠ 3) by omega) with rfl | rfl | rfl | ⟨h1, h2, h3⟩
  · have HG : Hid (lg = (nb : Int)) := by show _ = _; rw [HL.out]; rfl
    clear HL HB m2 m3
    go_enter Try.func16, Try.ntmps16
    go_wp2_with fail
    refine (kindOf_1 _).mono ?_
    rintro e w1 ⟨rfl, rfl⟩
    go_wp2_with fail
    refine (HF.out _).mono ?_
    rintro e w2 ⟨rfl, hb⟩
    go_wp2_with fail
    go_ret
    exact ⟨ret_int HG.out.symm, ((Below.refl _ _).alloc (Nat.le_refl _) _).trans (hb.mono (by simp))⟩
  · have HG : Hid (lg = (nb : Int)) := by show _ = _; rw [HL.out]; rfl
    clear HL HB m1 m3
    go_enter Try.func16, Try.ntmps16
    go_wp2_with fail
    refine (kindOf_2 _).mono ?_
    rintro e w1 ⟨rfl, rfl⟩
    go_wp2_with fail
    refine (HF.out _).mono ?_
    rintro e w2 ⟨rfl, hb⟩
    go_wp2_with fail
    go_ret
    exact ⟨ret_int HG.out.symm, ((Below.refl _ _).alloc (Nat.le_refl _) _).trans (hb.mono (by simp))⟩
  · have HG : Hid (lg = sz) := by show _ = _; rw [HL.out]; rfl
    clear HL HF m1 m2
    go_enter Try.func16, Try.ntmps16
    go_wp2_with fail
    refine (kindOf_3 _).mono ?_
    rintro e w1 ⟨rfl, rfl⟩
    go_wp2_with fail
    refine (HB.out _).mono ?_
    rintro e w2 ⟨rfl, hb⟩
    go_wp2_with fail
    go_ret
    exact ⟨ret_int HG.out.symm, ((Below.refl _ _).alloc (Nat.le_refl _) _).trans (hb.mono (by simp))⟩
  · have HG : Hid (lg = (nb : Int)) := by show _ = _; rw [HL.out, if_neg h3]
    have e1 : (k == 1) = false := by simpa using h1
    have e2 : (k == 2) = false := by simpa using h2
    have e3 : (k == 3) = false := by simpa using h3
    have HO := hidden (fun W => kindOf_no W k e1 e2 e3)
    clear HL HB HF m1 m2 m3 h1 h2 h3 e1 e2 e3
    go_enter Try.func16, Try.ntmps16
    go_wp2_with fail
    refine (HO.out _).mono ?_
    rintro e w1 ⟨rfl, rfl⟩
    go_wp2_with fail
    go_ret
    exact ⟨ret_int HG.out.symm, (Below.refl _ _).alloc (Nat.le_refl _) _⟩

end Go.Proofs.Ytiocchmlmcoieaa
/- The program's fixups of a section, one behind the other. -/
namespace Go.Proofs.Ytiocchmlmcoieaa
open Go.RowKit

set_option maxHeartbeats 2000000 in
theorem fixupsValid_any (w : World) (B : Nat) (fs : List Fx) (many : Int) (nb : Nat) (a2 : Option Addr) (c2 : Nat) (h2 : Fixs w B a2 fs) (hB : B ≤ w.heap.size) (hnb : (nb : Int) ≤ 9223372036854775807) (hnf : fs.length ≤ 9223372036854775807) :
    Calls Try.prog 114 #[.slice a2 fs.length c2, .int .i64 nb, .int .i64 many] w fun e w' => e = .returned (.bool (fixsOk nb many 0 fs)) ∧ Below w.heap.size w w' := by
  obtain ⟨nf, hn⟩ : ∃ n, n = fs.length := ⟨_, rfl⟩
  rw [← hn] at hnf ⊢
  have HNF := hidden hn
  have H2 := hidden h2
  clear hn h2
  go_enter Try.func114, Try.ntmps114
  go_wp2_with fail
  go_loopw [7, 13] (fun en i wr => ∃ (k : Nat) (e : Int), i = .int .i64 k ∧ en = .int .i64 e ∧ k ≤ nf ∧ 0 ≤ e ∧ e ≤ nb ∧ Hid (fixsOk nb many 0 fs = fixsOk nb many e (fs.drop k)) ∧ Below w.heap.size w wr) (fun _ i _ => nf - (intOf i).toNat)
  case atStart => exact ⟨0, 0, rfl, rfl, Nat.zero_le _, by omega, by omega, hidden (by simp), Below.refl _ _⟩
  case round =>
    obtain ⟨k, e, rfl, rfl, hk, he0, he1, hfo, hbx⟩ := hrel
    by_cases hlt : k < nf
    · have hi : (k : Int) < (nf : Int) := by omega
      have hkl : k < fs.length := by rw [← HNF.out]; exact hlt
      obtain ⟨b2, o2, rfl, _, p0, p1, p2, p3⟩ := (H2.out.below (hbx.mono hB)).at_ hkl
      obtain ⟨g, hfk⟩ : ∃ g, fs[k] = g := ⟨_, rfl⟩
      rw [hfk] at p0 p1 p2 p3
      have HD : Hid (fs.drop k = g :: fs.drop (k + 1)) := by show _ = _; rw [List.drop_eq_getElem_cons hkl, hfk]
      obtain ⟨pl, gk, tq, ad⟩ := g
      simp only at p0 p1 p2 p3
      have HFW := hidden (fun W => fixupWide_below W gk)
      have HG : Hid (fixsOk nb many 0 fs = (fixOk nb many e ⟨pl, gk, tq, ad⟩ && fixsOk nb many (pl + wideOf gk) (fs.drop (k + 1)))) := by
        show _ = _; rw [hfo.out, HD.out]; rfl
      obtain ⟨w0, w4⟩ := wideOf_bounds gk
      obtain ⟨wd, hwd⟩ : ∃ x, wideOf gk = x := ⟨_, rfl⟩
      rw [hwd] at HFW HG w0 w4
      have HGO : Hid (fixOk nb many e ⟨pl, gk, tq, ad⟩ = (decide (wd ≠ 0) && decide (0 ≤ tq) && decide (tq < many) && decide (-1000 ≤ ad ∧ ad ≤ 1000) && decide (e ≤ pl ∧ pl ≤ nb - wd))) := by
        show _ = _; unfold fixOk; simp only [hwd]
      clear hfk hkl hfo HD hwd
      go_wp2_with fail
      refine (HFW.out _).mono ?_
      clear HFW
      rintro e3 w3 ⟨rfl, hb3⟩
      have s1 : (wr.alloc (.cells #[.int .i64 pl, .int .i64 gk, .int .i64 tq, .int .i64 ad] 119)).heap.size = wr.heap.size + 1 := by simp
      have hb4 : Below wr.heap.size wr w3 := ((Below.refl _ _).alloc (Nat.le_refl _) _).trans (hb3.mono (by rw [s1]; omega))
      have RX : ∀ j, w3.cell? ⟨wr.heap.size, j, none⟩ = (#[.int .i64 pl, .int .i64 gk, .int .i64 tq, .int .i64 ad] : Array Value)[j]? := fun j => by
        rw [hb3.cell (by show wr.heap.size < _; rw [s1]; omega)]
        exact (Has.new wr 119 _).cell j
      have r0 : w3.cell? ⟨wr.heap.size, 0, none⟩ = some (.int .i64 pl) := RX 0
      have r2 : w3.cell? ⟨wr.heap.size, 2, none⟩ = some (.int .i64 tq) := RX 2
      have r3 : w3.cell? ⟨wr.heap.size, 3, none⟩ = some (.int .i64 ad) := RX 3
      have hbx4 : Below w.heap.size w w3 := hbx.trans (hb4.mono hbx.size)
      clear RX s1 hb3 hb4 p0 p1 p2 p3 hbx
      by_cases z0 : wd = 0
      · have z0' : (wd == 0) = true := by simp [z0]
        have HF : Hid (fixsOk nb many 0 fs = false) := by show _ = _; rw [HG.out, HGO.out]; simp [z0]
        clear HG HGO z0
        go_wp2_with fail
        go_ret
        exact ⟨ret_bool HF.out.symm, hbx4⟩
      have z0' : (wd == 0) = false := by simpa using z0
      by_cases z5 : pl < e
      · have HF : Hid (fixsOk nb many 0 fs = false) := by show _ = _; rw [HG.out, HGO.out]; simp; omega
        clear HG HGO z0
        go_wp2_with fail
        go_ret
        exact ⟨ret_bool HF.out.symm, hbx4⟩
      by_cases z6 : (nb : Int) - wd < pl
      · have HF : Hid (fixsOk nb many 0 fs = false) := by show _ = _; rw [HG.out, HGO.out]; simp; omega
        clear HG HGO z0
        go_wp2_with fail
        go_ret
        exact ⟨ret_bool HF.out.symm, hbx4⟩
      by_cases z1 : tq < 0
      · have HF : Hid (fixsOk nb many 0 fs = false) := by show _ = _; rw [HG.out, HGO.out]; simp; omega
        clear HG HGO z0
        go_wp2_with fail
        go_ret
        exact ⟨ret_bool HF.out.symm, hbx4⟩
      by_cases z2 : many ≤ tq
      · have HF : Hid (fixsOk nb many 0 fs = false) := by show _ = _; rw [HG.out, HGO.out]; simp; omega
        clear HG HGO z0
        go_wp2_with fail
        go_ret
        exact ⟨ret_bool HF.out.symm, hbx4⟩
      by_cases z3 : ad < -1000
      · have HF : Hid (fixsOk nb many 0 fs = false) := by show _ = _; rw [HG.out, HGO.out]; simp; omega
        clear HG HGO z0
        go_wp2_with fail
        go_ret
        exact ⟨ret_bool HF.out.symm, hbx4⟩
      by_cases z4 : 1000 < ad
      · have HF : Hid (fixsOk nb many 0 fs = false) := by show _ = _; rw [HG.out, HGO.out]; simp; omega
        clear HG HGO z0
        go_wp2_with fail
        go_ret
        exact ⟨ret_bool HF.out.symm, hbx4⟩
      have HN : Hid (fixsOk nb many 0 fs = fixsOk nb many (pl + wd) (fs.drop (k + 1))) := by
        show _ = _
        have : fixOk nb many e ⟨pl, gk, tq, ad⟩ = true := by rw [HGO.out]; simp; omega
        rw [HG.out, this, Bool.true_and]
      clear HG HGO z0
      go_wp2_with fail
      go_roundw
      case rel => exact ⟨k + 1, pl + wd, by go_num, by go_num, by omega, by omega, by omega, HN, hbx4⟩
      case measure => simp [intOf]; omega
    · have hi : ¬ (k : Int) < (nf : Int) := by omega
      have HF : Hid (fixsOk nb many 0 fs = true) := by
        show _ = _
        have hd : fs.drop k = [] := List.drop_eq_nil_of_le (by rw [← HNF.out]; omega)
        rw [hfo.out, hd]; simp [fixsOk]
      clear hfo
      go_wp2_with fail
      go_ret
      exact ⟨ret_bool HF.out.symm, hbx⟩

end Go.Proofs.Ytiocchmlmcoieaa
/- The program's valid sections. -/
namespace Go.Proofs.Ytiocchmlmcoieaa
open Go.RowKit

set_option maxHeartbeats 1000000 in
theorem filledValid_any (w : World) (B : Nat) (s : Sx) (many : Int) (a1 : Option Addr) (c1 : Nat) (a2 : Option Addr) (c2 : Nat) (h2 : Fixs w B a2 s.fixs) (hB : B ≤ w.heap.size) (hl1 : s.bytes.length ≤ 9223372036854775807) (hl2 : s.fixs.length ≤ 9223372036854775807) :
    Calls Try.prog 113 #[.agg #[], s.agg a1 c1 a2 c2, .int .i64 many] w fun e w' => e = .returned (.bool (decide (s.size = 0) && decide (s.bytes.length ≤ 48) && decide (s.fixs.length ≤ 6) && fixsOk s.bytes.length many 0 s.fixs)) ∧ Below w.heap.size w w' := by
  obtain ⟨nm, k, al, bs, sz, fs⟩ := s
  unfold Sx.agg
  simp only at h2 hl1 hl2 ⊢
  have HFV := hidden (fun (W : World) (hw : Below w.heap.size w W) => fixupsValid_any W B fs many bs.length a2 c2 (h2.below (hw.mono hB)) (Nat.le_trans hB hw.size) (by omega) hl2)
  generalize bs.length = nb at HFV hl1 ⊢
  generalize fs.length = nf at HFV hl2 ⊢
  obtain ⟨fo, hfo⟩ : ∃ b, b = fixsOk nb many 0 fs := ⟨_, rfl⟩
  rw [← hfo] at HFV ⊢
  clear hfo h2
  obtain ⟨ok, hok⟩ : ∃ b, b = (decide (sz = 0) && decide (nb ≤ 48) && decide (nf ≤ 6) && fo) := ⟨_, rfl⟩
  rw [← hok]
  have HOK := hidden hok
  clear hok
  have hbw : Below w.heap.size w ((w.alloc (.cells #[] 99)).alloc (.cells #[.string nm, .int .i64 k, .int .i64 al, .slice a1 nb c1, .int .i64 sz, .slice a2 nf c2] 42)) := ((Below.refl _ _).alloc (Nat.le_refl _) _).alloc (by simp) _
  by_cases z0 : sz = 0
  case neg =>
    have z0' : (sz == 0) = false := by simpa using z0
    have HF : Hid (ok = false) := by show _ = _; rw [HOK.out]; simp [z0]
    clear HOK HFV z0
    go_enter Try.func113, Try.ntmps113
    go_wp2_with fail
    go_ret
    exact ⟨ret_bool HF.out.symm, hbw⟩
  have z0' : (sz == 0) = true := by simp [z0]
  by_cases hb : (nb : Int) ≤ 48
  case neg =>
    have HF : Hid (ok = false) := by show _ = _; rw [HOK.out]; simp; omega
    clear HOK HFV z0
    go_enter Try.func113, Try.ntmps113
    go_wp2_with fail
    go_ret
    exact ⟨ret_bool HF.out.symm, hbw⟩
  by_cases hf : (nf : Int) ≤ 6
  case neg =>
    have HF : Hid (ok = false) := by show _ = _; rw [HOK.out]; simp; omega
    clear HOK HFV z0
    go_enter Try.func113, Try.ntmps113
    go_wp2_with fail
    go_ret
    exact ⟨ret_bool HF.out.symm, hbw⟩
  have HF : Hid (ok = fo) := by show _ = _; rw [HOK.out]; have : nb ≤ 48 := by omega
                                have : nf ≤ 6 := by omega
                                simp [*]
  clear HOK z0
  go_enter Try.func113, Try.ntmps113
  go_wp2_with fail
  refine (HFV.out _ hbw).mono ?_
  rintro e w1 ⟨rfl, hb1⟩
  go_wp2_with fail
  go_ret
  exact ⟨ret_bool HF.out.symm, hbw.trans (hb1.mono hbw.size)⟩
set_option maxHeartbeats 1000000 in
theorem blankValid_any (w : World) (s : Sx) (many : Int) (a1 : Option Addr) (c1 : Nat) (a2 : Option Addr) (c2 : Nat) (hl1 : s.bytes.length ≤ 9223372036854775807) (hl2 : s.fixs.length ≤ 9223372036854775807) :
    Calls Try.prog 117 #[.agg #[], s.agg a1 c1 a2 c2, .int .i64 many] w fun e w' => e = .returned (.bool (decide (0 ≤ s.size ∧ s.size ≤ 48) && decide (s.bytes.length = 0) && decide (s.fixs.length = 0))) ∧ Below w.heap.size w w' := by
  obtain ⟨nm, k, al, bs, sz, fs⟩ := s
  unfold Sx.agg
  simp only at hl1 hl2 ⊢
  generalize bs.length = nb at hl1 ⊢
  generalize fs.length = nf at hl2 ⊢
  obtain ⟨ok, hok⟩ : ∃ b, b = (decide (0 ≤ sz ∧ sz ≤ 48) && decide (nb = 0) && decide (nf = 0)) := ⟨_, rfl⟩
  rw [← hok]
  have HOK := hidden hok
  clear hok
  have hbw : Below w.heap.size w ((w.alloc (.cells #[] 103)).alloc (.cells #[.string nm, .int .i64 k, .int .i64 al, .slice a1 nb c1, .int .i64 sz, .slice a2 nf c2] 42)) := ((Below.refl _ _).alloc (Nat.le_refl _) _).alloc (by simp) _
  by_cases s0 : 0 ≤ sz
  case neg =>
    have HF : Hid (ok = false) := by show _ = _; rw [HOK.out]; simp; omega
    clear HOK
    go_enter Try.func117, Try.ntmps117
    go_wp2_with fail
    go_ret
    exact ⟨ret_bool HF.out.symm, hbw⟩
  by_cases s1 : sz ≤ 48
  case neg =>
    have HF : Hid (ok = false) := by show _ = _; rw [HOK.out]; simp; omega
    clear HOK
    go_enter Try.func117, Try.ntmps117
    go_wp2_with fail
    go_ret
    exact ⟨ret_bool HF.out.symm, hbw⟩
  by_cases b0 : nb = 0
  case neg =>
    have b0' : ((nb : Int) == 0) = false := by simp; omega
    have HF : Hid (ok = false) := by show _ = _; rw [HOK.out]; simp [b0]
    clear HOK b0
    go_enter Try.func117, Try.ntmps117
    go_wp2_with fail
    go_ret
    exact ⟨ret_bool HF.out.symm, hbw⟩
  have b0' : ((nb : Int) == 0) = true := by simp [b0]
  by_cases f0 : nf = 0
  case neg =>
    have f0' : ((nf : Int) == 0) = false := by simp; omega
    have HF : Hid (ok = false) := by show _ = _; rw [HOK.out]; simp [f0]
    clear HOK b0 f0
    go_enter Try.func117, Try.ntmps117
    go_wp2_with fail
    go_ret
    exact ⟨ret_bool HF.out.symm, hbw⟩
  have f0' : ((nf : Int) == 0) = true := by simp [f0]
  have HF : Hid (ok = true) := by show _ = _; rw [HOK.out]; simp [b0, f0, s0, s1]
  clear HOK b0 f0
  go_enter Try.func117, Try.ntmps117
  go_wp2_with fail
  go_ret
  exact ⟨ret_bool HF.out.symm, hbw⟩
set_option maxHeartbeats 2000000 in
theorem wantSectionValid : WantSectionValid := by
  intro w B s many a1 c1 a2 c2 h1 h2 hB hfit hmany
  have hl1 := hfit.bytes
  have hl2 := hfit.count
  have hname := hfit.name
  have HFV := hidden (fun (W : World) (hw : Below w.heap.size w W) => filledValid_any W B s many a1 c1 a2 c2 (h2.below (hw.mono hB)) (Nat.le_trans hB hw.size) hl1 hl2)
  have HBV := hidden (fun (W : World) (_ : Below w.heap.size w W) => blankValid_any W s many a1 c1 a2 c2 hl1 hl2)
  clear h1 h2 hB hfit
  obtain ⟨nm, k, al, bs, sz, fs⟩ := s
  simp only [Sx.agg] at HFV HBV hl1 hl2 hname ⊢
  have HNV := hidden (fun W => nameValid_any nm W hname)
  have HAV := hidden (fun W => alignValid_any W al)
  obtain ⟨ok, hok⟩ : ∃ ok, ok = sectOk ⟨nm, k, al, bs, sz, fs⟩ many := ⟨_, rfl⟩
  have HOK : Hid (ok = (nameOk nm.data.toList && decide (1 ≤ k ∧ k ≤ 3) && decide (al = 1 ∨ al = 2 ∨ al = 4 ∨ al = 8) && decide (bs.length ≤ 48) && decide (fs.length ≤ 6) && decide (0 ≤ sz ∧ sz ≤ 48) &&
      (if k = 3 then decide (bs.length = 0) && decide (fs.length = 0) else fixsOk bs.length many 0 fs && decide (sz = 0)))) := by
    show _ = _; rw [hok]; rfl
  rw [← hok]
  clear hok
  generalize bs.length = nb at HFV HBV HOK hl1 ⊢
  generalize fs.length = nf at HFV HBV HOK hl2 ⊢
  generalize fixsOk nb many 0 fs = fo at HFV HOK
  have hbw : Below w.heap.size w (w.alloc (.cells #[.string nm, .int .i64 k, .int .i64 al, .slice a1 nb c1, .int .i64 sz, .slice a2 nf c2] 42)) := (Below.refl _ _).alloc (Nat.le_refl _) _
  rcases (show k = 1 ∨ k = 2 ∨ k = 3 ∨ (k ≠ 1 ∧ k ≠ 2 ∧ k ≠ 3) by omega) with rfl | rfl | rfl | ⟨h1, h2, h3⟩
  · have m0 : ∀ w : World, (method 264 101 (.agg #[]) "loop.example/objectlinker/impl.valid").run Try.prog w = .ok (113, .agg #[]) w := fun _ => by kernel_rfl
    rcases hnn : nameOk nm.data.toList with _ | _
    · rw [hnn] at HNV HOK
      have HF : Hid (ok = false) := by show _ = _; rw [HOK.out]; simp
      clear HOK HFV HBV hnn
      go_enter Try.func83, Try.ntmps83
      go_wp2_with fail
      refine (kindOf_1 _).mono ?_
      rintro e w1 ⟨rfl, rfl⟩
      go_wp2_with fail
      refine (HNV.out _).mono ?_
      rintro e w1 ⟨rfl, rfl⟩
      go_wp2_with fail
      go_ret
      exact ⟨ret_bool HF.out.symm, hbw⟩
    rw [hnn] at HNV HOK
    rcases hal : decide (al = 1 ∨ al = 2 ∨ al = 4 ∨ al = 8) with _ | _
    · rw [hal] at HAV HOK
      have HF : Hid (ok = false) := by show _ = _; rw [HOK.out]; simp
      clear HOK HFV HBV hnn hal
      go_enter Try.func83, Try.ntmps83
      go_wp2_with fail
      refine (kindOf_1 _).mono ?_
      rintro e w1 ⟨rfl, rfl⟩
      go_wp2_with fail
      refine (HNV.out _).mono ?_
      rintro e w1 ⟨rfl, rfl⟩
      go_wp2_with fail
      refine (HAV.out _).mono ?_
      rintro e w1 ⟨rfl, rfl⟩
      go_wp2_with fail
      go_ret
      exact ⟨ret_bool HF.out.symm, hbw⟩
    rw [hal] at HAV HOK
    have HF := hidden (show ok = (decide (sz = 0) && decide (nb ≤ 48) && decide (nf ≤ 6) && fo) by rw [HOK.out]; cases fo <;> first | (simp; done) | (rw [Bool.eq_iff_iff]; simp; omega))
    clear HOK hnn hal
    go_enter Try.func83, Try.ntmps83
    go_wp2_with fail
    refine (kindOf_1 _).mono ?_
    rintro e w1 ⟨rfl, rfl⟩
    go_wp2_with fail
    refine (HNV.out _).mono ?_
    rintro e w1 ⟨rfl, rfl⟩
    go_wp2_with fail
    refine (HAV.out _).mono ?_
    rintro e w1 ⟨rfl, rfl⟩
    go_wp2_with fail
    refine (HFV.out _ hbw).mono ?_
    rintro e w1 ⟨rfl, hb1⟩
    go_wp2_with fail
    go_ret
    exact ⟨ret_bool HF.out.symm, hbw.trans (hb1.mono hbw.size)⟩
  · have m0 : ∀ w : World, (method 264 102 (.agg #[]) "loop.example/objectlinker/impl.valid").run Try.prog w = .ok (113, .agg #[]) w := fun _ => by kernel_rfl
    rcases hnn : nameOk nm.data.toList with _ | _
    · rw [hnn] at HNV HOK
      have HF : Hid (ok = false) := by show _ = _; rw [HOK.out]; simp
      clear HOK HFV HBV hnn
      go_enter Try.func83, Try.ntmps83
      go_wp2_with fail
      refine (kindOf_2 _).mono ?_
      rintro e w1 ⟨rfl, rfl⟩
      go_wp2_with fail
      refine (HNV.out _).mono ?_
      rintro e w1 ⟨rfl, rfl⟩
      go_wp2_with fail
      go_ret
      exact ⟨ret_bool HF.out.symm, hbw⟩
    rw [hnn] at HNV HOK
    rcases hal : decide (al = 1 ∨ al = 2 ∨ al = 4 ∨ al = 8) with _ | _
    · rw [hal] at HAV HOK
      have HF : Hid (ok = false) := by show _ = _; rw [HOK.out]; simp
      clear HOK HFV HBV hnn hal
      go_enter Try.func83, Try.ntmps83
      go_wp2_with fail
      refine (kindOf_2 _).mono ?_
      rintro e w1 ⟨rfl, rfl⟩
      go_wp2_with fail
      refine (HNV.out _).mono ?_
      rintro e w1 ⟨rfl, rfl⟩
      go_wp2_with fail
      refine (HAV.out _).mono ?_
      rintro e w1 ⟨rfl, rfl⟩
      go_wp2_with fail
      go_ret
      exact ⟨ret_bool HF.out.symm, hbw⟩
    rw [hal] at HAV HOK
    have HF := hidden (show ok = (decide (sz = 0) && decide (nb ≤ 48) && decide (nf ≤ 6) && fo) by rw [HOK.out]; cases fo <;> first | (simp; done) | (rw [Bool.eq_iff_iff]; simp; omega))
    clear HOK hnn hal
    go_enter Try.func83, Try.ntmps83
    go_wp2_with fail
    refine (kindOf_2 _).mono ?_
    rintro e w1 ⟨rfl, rfl⟩
    go_wp2_with fail
    refine (HNV.out _).mono ?_
    rintro e w1 ⟨rfl, rfl⟩
    go_wp2_with fail
    refine (HAV.out _).mono ?_
    rintro e w1 ⟨rfl, rfl⟩
    go_wp2_with fail
    refine (HFV.out _ hbw).mono ?_
    rintro e w1 ⟨rfl, hb1⟩
    go_wp2_with fail
    go_ret
    exact ⟨ret_bool HF.out.symm, hbw.trans (hb1.mono hbw.size)⟩
  · have m0 : ∀ w : World, (method 264 103 (.agg #[]) "loop.example/objectlinker/impl.valid").run Try.prog w = .ok (117, .agg #[]) w := fun _ => by kernel_rfl
    rcases hnn : nameOk nm.data.toList with _ | _
    · rw [hnn] at HNV HOK
      have HF : Hid (ok = false) := by show _ = _; rw [HOK.out]; simp
      clear HOK HFV HBV hnn
      go_enter Try.func83, Try.ntmps83
      go_wp2_with fail
      refine (kindOf_3 _).mono ?_
      rintro e w1 ⟨rfl, rfl⟩
      go_wp2_with fail
      refine (HNV.out _).mono ?_
      rintro e w1 ⟨rfl, rfl⟩
      go_wp2_with fail
      go_ret
      exact ⟨ret_bool HF.out.symm, hbw⟩
    rw [hnn] at HNV HOK
    rcases hal : decide (al = 1 ∨ al = 2 ∨ al = 4 ∨ al = 8) with _ | _
    · rw [hal] at HAV HOK
      have HF : Hid (ok = false) := by show _ = _; rw [HOK.out]; simp
      clear HOK HFV HBV hnn hal
      go_enter Try.func83, Try.ntmps83
      go_wp2_with fail
      refine (kindOf_3 _).mono ?_
      rintro e w1 ⟨rfl, rfl⟩
      go_wp2_with fail
      refine (HNV.out _).mono ?_
      rintro e w1 ⟨rfl, rfl⟩
      go_wp2_with fail
      refine (HAV.out _).mono ?_
      rintro e w1 ⟨rfl, rfl⟩
      go_wp2_with fail
      go_ret
      exact ⟨ret_bool HF.out.symm, hbw⟩
    rw [hal] at HAV HOK
    have HF := hidden (show ok = (decide (0 ≤ sz ∧ sz ≤ 48) && decide (nb = 0) && decide (nf = 0)) by rw [HOK.out]; rw [Bool.eq_iff_iff]; simp; omega)
    clear HOK hnn hal
    go_enter Try.func83, Try.ntmps83
    go_wp2_with fail
    refine (kindOf_3 _).mono ?_
    rintro e w1 ⟨rfl, rfl⟩
    go_wp2_with fail
    refine (HNV.out _).mono ?_
    rintro e w1 ⟨rfl, rfl⟩
    go_wp2_with fail
    refine (HAV.out _).mono ?_
    rintro e w1 ⟨rfl, rfl⟩
    go_wp2_with fail
    refine (HBV.out _ hbw).mono ?_
    rintro e w1 ⟨rfl, hb1⟩
    go_wp2_with fail
    go_ret
    exact ⟨ret_bool (by rw [HF.out]; simp), hbw.trans (hb1.mono hbw.size)⟩
  · have HF : Hid (ok = false) := by show _ = _; rw [HOK.out]; simp; omega
    have e1 : (k == 1) = false := by simpa using h1
    have e2 : (k == 2) = false := by simpa using h2
    have e3 : (k == 3) = false := by simpa using h3
    have HO := hidden (fun W => kindOf_no W k e1 e2 e3)
    clear HOK HFV HBV HNV HAV h1 h2 h3 e1 e2 e3
    go_enter Try.func83, Try.ntmps83
    go_wp2_with fail
    refine (HO.out _).mono ?_
    rintro e w1 ⟨rfl, rfl⟩
    go_wp2_with fail
    go_ret
    exact ⟨ret_bool HF.out.symm, hbw⟩

end Go.Proofs.Ytiocchmlmcoieaa
/- impl.SymbolValid. -/
namespace Go.Proofs.Ytiocchmlmcoieaa
open Go.RowKit

set_option maxRecDepth 100000 in
set_option maxHeartbeats 2000000 in
theorem symbolValid_any (hSE : WantSectionSize) (w : World) (B : Nat) (m : Sm) (a : Option Addr) (c n : Nat) (l : List Sp) (hn : n = l.length) (h : Sects w B a l) (hB : B ≤ w.heap.size) (hlen : n ≤ 9223372036854775807) (hname : m.name.size ≤ maxLen) (hl : ∀ y ∈ l, y.s.fits) :
    Calls Try.prog 84 #[m.agg, .slice a n c] w fun e w' => e = .returned (.bool (symOk m (l.map Sp.s))) ∧ Below w.heap.size w w' := by
  obtain ⟨nm, bd, lo, va⟩ := m
  unfold Sm.agg
  simp only at hname ⊢
  have HNV := hidden (fun W => nameValid_any nm W hname)
  have HSE := hidden hSE
  obtain ⟨ok, hok⟩ : ∃ ok, ok = symOk ⟨nm, bd, lo, va⟩ (l.map Sp.s) := ⟨_, rfl⟩
  have HOK : Hid (ok = (nameOk nm.data.toList && decide (0 ≤ bd ∧ bd ≤ 2) &&
      (if lo = -1 then decide (va = 0) && decide (bd ≠ 0) else if lo = -2 then decide (0 ≤ va ∧ va ≤ 60000) else decide (0 ≤ lo ∧ lo < n) && decide (0 ≤ va ∧ va ≤ (((l.map Sp.s)[lo.toNat]?).map Sx.long).getD 0)))) := by
    show _ = _; rw [hok, hn]; unfold symOk; simp only [List.length_map]
  rw [← hok]
  have HN := hidden hn
  have H1 := hidden h
  have HL := hidden hl
  have HLN := hidden hlen
  clear hok hn h hl hname hSE
  rcases hnm : nameOk nm.data.toList with _ | _
  · rw [hnm] at HNV HOK
    have HF : Hid (ok = false) := by show _ = _; rw [HOK.out]; simp
    clear HOK H1 HL HN HLN HSE
    go_enter Try.func84, Try.ntmps84
    go_wp2_with (go_at_call 92; refine (HNV.out _).mono ?_; rintro e w' ⟨rfl, rfl⟩)
    go_ret
    exact ⟨ret_bool HF.out.symm, (Below.refl _ _).alloc (Nat.le_refl _) _⟩
  rw [hnm] at HNV HOK
  clear hnm
  by_cases b1 : bd < 0
  · have HF : Hid (ok = false) := by show _ = _; rw [HOK.out]; simp; omega
    clear HOK H1 HL HN HLN HSE
    go_enter Try.func84, Try.ntmps84
    go_wp2_with (go_at_call 92; refine (HNV.out _).mono ?_; rintro e w' ⟨rfl, rfl⟩)
    go_ret
    exact ⟨ret_bool HF.out.symm, (Below.refl _ _).alloc (Nat.le_refl _) _⟩
  by_cases b2 : 2 < bd
  · have HF : Hid (ok = false) := by show _ = _; rw [HOK.out]; simp; omega
    clear HOK H1 HL HN HLN HSE
    go_enter Try.func84, Try.ntmps84
    go_wp2_with (go_at_call 92; refine (HNV.out _).mono ?_; rintro e w' ⟨rfl, rfl⟩)
    go_ret
    exact ⟨ret_bool HF.out.symm, (Below.refl _ _).alloc (Nat.le_refl _) _⟩
  have hbd : decide (0 ≤ bd ∧ bd ≤ 2) = true := by simp; omega
  rw [hbd] at HOK
  clear hbd
  by_cases l1 : lo = -1
  · have l1' : (lo == -1) = true := by simp [l1]
    rw [if_pos l1] at HOK
    clear l1
    by_cases z0 : bd = 0
    · have z0' : (bd == 0) = true := by simp [z0]
      have z1' : (bd != 0) = false := by simp [z0]
      have HF : Hid (ok = false) := by show _ = _; rw [HOK.out]; simp [z0]
      clear HOK H1 HL HN HLN HSE
      go_enter Try.func84, Try.ntmps84
      go_wp2_with (go_at_call 92; refine (HNV.out _).mono ?_; rintro e w' ⟨rfl, rfl⟩)
      go_ret
      exact ⟨ret_bool HF.out.symm, (Below.refl _ _).alloc (Nat.le_refl _) _⟩
    have z0' : (bd == 0) = false := by simpa using z0
    have z1' : (bd != 0) = true := by simpa using z0
    by_cases v0 : va = 0
    · have v0' : (va == 0) = true := by simp [v0]
      have HF : Hid (ok = true) := by show _ = _; rw [HOK.out]; simp [v0, z0]
      clear HOK H1 HL HN HLN HSE
      go_enter Try.func84, Try.ntmps84
      go_wp2_with (go_at_call 92; refine (HNV.out _).mono ?_; rintro e w' ⟨rfl, rfl⟩)
      go_ret
      exact ⟨ret_bool HF.out.symm, (Below.refl _ _).alloc (Nat.le_refl _) _⟩
    · have v0' : (va == 0) = false := by simpa using v0
      have HF : Hid (ok = false) := by show _ = _; rw [HOK.out]; simp [v0]
      clear HOK H1 HL HN HLN HSE
      go_enter Try.func84, Try.ntmps84
      go_wp2_with (go_at_call 92; refine (HNV.out _).mono ?_; rintro e w' ⟨rfl, rfl⟩)
      go_ret
      exact ⟨ret_bool HF.out.symm, (Below.refl _ _).alloc (Nat.le_refl _) _⟩
  have l1' : (lo == -1) = false := by simpa using l1
  rw [if_neg l1] at HOK
  by_cases l2 : lo = -2
  · have l2' : (lo == -2) = true := by simp [l2]
    rw [if_pos l2] at HOK
    clear l1 l2
    by_cases v0 : va < 0
    · have HF : Hid (ok = false) := by show _ = _; rw [HOK.out]; simp; omega
      clear HOK H1 HL HN HLN HSE
      go_enter Try.func84, Try.ntmps84
      go_wp2_with (go_at_call 92; refine (HNV.out _).mono ?_; rintro e w' ⟨rfl, rfl⟩)
      go_ret
      exact ⟨ret_bool HF.out.symm, (Below.refl _ _).alloc (Nat.le_refl _) _⟩
    by_cases v1 : va ≤ 60000
    · have HF : Hid (ok = true) := by show _ = _; rw [HOK.out]; simp; omega
      clear HOK H1 HL HN HLN HSE
      go_enter Try.func84, Try.ntmps84
      go_wp2_with (go_at_call 92; refine (HNV.out _).mono ?_; rintro e w' ⟨rfl, rfl⟩)
      go_ret
      exact ⟨ret_bool HF.out.symm, (Below.refl _ _).alloc (Nat.le_refl _) _⟩
    have HF : Hid (ok = false) := by show _ = _; rw [HOK.out]; simp; omega
    clear HOK H1 HL HN HLN HSE
    go_enter Try.func84, Try.ntmps84
    go_wp2_with (go_at_call 92; refine (HNV.out _).mono ?_; rintro e w' ⟨rfl, rfl⟩)
    go_ret
    exact ⟨ret_bool (by rw [HF.out]; simpa using v1), (Below.refl _ _).alloc (Nat.le_refl _) _⟩
  have l2' : (lo == -2) = false := by simpa using l2
  rw [if_neg l2] at HOK
  clear l1 l2
  by_cases k0 : lo < 0
  · have HF : Hid (ok = false) := by show _ = _; rw [HOK.out]; simp; omega
    clear HOK H1 HL HN HLN HSE
    go_enter Try.func84, Try.ntmps84
    go_wp2_with (go_at_call 92; refine (HNV.out _).mono ?_; rintro e w' ⟨rfl, rfl⟩)
    go_ret
    exact ⟨ret_bool HF.out.symm, (Below.refl _ _).alloc (Nat.le_refl _) _⟩
  by_cases k1 : (n : Int) ≤ lo
  · have HF : Hid (ok = false) := by show _ = _; rw [HOK.out]; simp; omega
    clear HOK H1 HL HN HLN HSE
    go_enter Try.func84, Try.ntmps84
    go_wp2_with (go_at_call 92; refine (HNV.out _).mono ?_; rintro e w' ⟨rfl, rfl⟩)
    go_ret
    exact ⟨ret_bool HF.out.symm, (Below.refl _ _).alloc (Nat.le_refl _) _⟩
  obtain ⟨k, rfl⟩ : ∃ k : Nat, lo = k := ⟨lo.toNat, by omega⟩
  have HQ2 : Hid (∀ W, Below (w.heap.size + 1) (w.alloc (.cells #[.string nm, .int .i64 bd, .int .i64 (k : Int), .int .i64 va] 82)) W → W.cell? ⟨w.heap.size, 2, none⟩ = some (.int .i64 (k : Int))) := fun W hW => (hW.cell (Nat.lt_succ_self _)).trans ((Has.new w 82 _).cell 2)
  have HQ3 : Hid (∀ W, Below (w.heap.size + 1) (w.alloc (.cells #[.string nm, .int .i64 bd, .int .i64 (k : Int), .int .i64 va] 82)) W → W.cell? ⟨w.heap.size, 3, none⟩ = some (.int .i64 va)) := fun W hW => (hW.cell (Nat.lt_succ_self _)).trans ((Has.new w 82 _).cell 3)
  have hkl : k < l.length := by rw [← HN.out]; omega
  obtain ⟨b, off, rfl, hb, hp⟩ := H1.out.at_ hkl
  obtain ⟨y, hy⟩ : ∃ y, l[k] = y := ⟨_, rfl⟩
  rw [hy] at hp
  have HP : Hid (∀ W, Below (w.heap.size + 1) (w.alloc (.cells #[.string nm, .int .i64 bd, .int .i64 (k : Int), .int .i64 va] 82)) W → SecAt W b (off + k * 6) y) := fun W hW => hp.keep fun i => by
    rw [hW.cell (by show b < _; omega)]
    exact World.cell?_alloc_lt _ _ _ (by show b < w.heap.size; omega)
  have hmy : y ∈ l := by rw [← hy]; exact List.getElem_mem hkl
  have HSZ : Hid (∀ W, Below (w.heap.size + 1) (w.alloc (.cells #[.string nm, .int .i64 bd, .int .i64 (k : Int), .int .i64 va] 82)) W → Calls Try.prog 16 #[.agg #[.string y.s.name, .int .i64 y.s.kind, .int .i64 y.s.align, .slice y.a1 y.s.bytes.length y.c1, .int .i64 y.s.size, .slice y.a2 y.s.fixs.length y.c2]] W fun e w' => e = .returned (.int .i64 y.s.long) ∧ Below W.heap.size W w') := fun W hW => by
    have hb0 : Below w.heap.size w W := ((Below.refl _ _).alloc (Nat.le_refl _) _).trans (hW.mono (by omega))
    exact HSE.out W B y.s y.a1 y.c1 y.a2 y.c2 ((H1.out.bytes y hmy).below (hb0.mono hB)) ((H1.out.fixs y hmy).below (hb0.mono hB)) (Nat.le_trans hB hb0.size) (HL.out y hmy)
  have hmem : (l.map Sp.s)[((k : Nat) : Int).toNat]? = some y.s := by
    rw [Int.toNat_natCast, List.getElem?_map, List.getElem?_eq_getElem hkl, hy]; rfl
  rw [hmem] at HOK
  have hki : (k : Int) < (n : Int) := by omega
  obtain ⟨lg, hlg⟩ : ∃ x, y.s.long = x := ⟨_, rfl⟩
  have HG : Hid (ok = decide (0 ≤ va ∧ va ≤ lg)) := by
    show _ = _
    have e : decide (0 ≤ (k : Int) ∧ (k : Int) < n) = true := by simp; omega
    rw [HOK.out, e, ← hlg]; simp
  rw [hlg] at HSZ
  clear HOK H1 HL HN hkl hp hy hmem hlg hb hmy HSE
  by_cases v0 : va < 0
  · have HF : Hid (ok = false) := by show _ = _; rw [HG.out]; simp; omega
    clear HG
    go_enter Try.func84, Try.ntmps84
    go_upto_region 10 with (go_at_call 92; refine (HNV.out _).mono ?_; rintro e w' ⟨rfl, rfl⟩)
    refine wp_region_seq (by kernel_rfl) (fun W => Below (w.heap.size + 1) (w.alloc (.cells #[.string nm, .int .i64 bd, .int .i64 (k : Int), .int .i64 va] 82)) W) (by kernel_rfl) (Below.refl _ _).drew ?_
    refine SeqV.step (.pointer (some ⟨w.heap.size, 3, none⟩)) (by rfl) (fun W hW => ?_) ?_
    · unfold Oper.wp
      simp [go_sem]
      try exact hW
    simp only [Act.put, List.setIfInBounds_toArray, List.set_cons_succ, List.set_cons_zero]
    refine SeqV.step (.int .i64 va) (by rfl) (fun W hW => ?_) ?_
    · have q3 := HQ3.out W hW; unfold Oper.wp
      simp [go_sem, *]
      try exact hW
    simp only [Act.put, List.setIfInBounds_toArray, List.set_cons_succ, List.set_cons_zero]
    refine SeqV.step (.bool false) (by rfl) (fun W hW => ?_) ?_
    · have q := v0; unfold Oper.wp
      simp [go_sem, *]
      try exact hW
    simp only [Act.put, List.setIfInBounds_toArray, List.set_cons_succ, List.set_cons_zero]
    refine SeqV.step (.bool false) (by rfl) (fun W hW => ?_) ?_
    · unfold Oper.wp
      simp [go_sem]
      try exact hW
    simp only [Act.put, List.setIfInBounds_toArray, List.set_cons_succ, List.set_cons_zero]
    refine SeqV.skip (by rfl) ?_
    simp only [Act.put, List.setIfInBounds_toArray, List.set_cons_succ, List.set_cons_zero]
    refine SeqV.skip (by rfl) ?_
    simp only [Act.put, List.setIfInBounds_toArray, List.set_cons_succ, List.set_cons_zero]
    refine SeqV.skip (by rfl) ?_
    simp only [Act.put, List.setIfInBounds_toArray, List.set_cons_succ, List.set_cons_zero]
    refine SeqV.skip (by rfl) ?_
    simp only [Act.put, List.setIfInBounds_toArray, List.set_cons_succ, List.set_cons_zero]
    refine SeqV.skip (by rfl) ?_
    simp only [Act.put, List.setIfInBounds_toArray, List.set_cons_succ, List.set_cons_zero]
    refine SeqV.skip (by rfl) ?_
    simp only [Act.put, List.setIfInBounds_toArray, List.set_cons_succ, List.set_cons_zero]
    refine SeqV.skip (by rfl) ?_
    simp only [Act.put, List.setIfInBounds_toArray, List.set_cons_succ, List.set_cons_zero]
    refine SeqV.skip (by rfl) ?_
    simp only [Act.put, List.setIfInBounds_toArray, List.set_cons_succ, List.set_cons_zero]
    refine SeqV.skip (by rfl) ?_
    simp only [Act.put, List.setIfInBounds_toArray, List.set_cons_succ, List.set_cons_zero]
    refine SeqV.step (.bool false) (by rfl) (fun W hW => ?_) ?_
    · unfold Oper.wp
      simp [go_sem]
      try exact hW
    simp only [Act.put, List.setIfInBounds_toArray, List.set_cons_succ, List.set_cons_zero]
    refine SeqV.step (.bool false) (by rfl) (fun W hW => ?_) ?_
    · unfold Oper.wp
      simp [go_sem]
      try exact hW
    simp only [Act.put, List.setIfInBounds_toArray, List.set_cons_succ, List.set_cons_zero]
    intro W hW
    go_wp2_with fail
    go_ret
    exact ⟨ret_bool HF.out.symm, ((Below.refl _ _).alloc (Nat.le_refl _) _).trans (hW.mono (by omega))⟩
  by_cases v1 : lg < va
  · have HF : Hid (ok = false) := by show _ = _; rw [HG.out]; simp; omega
    clear HG
    go_enter Try.func84, Try.ntmps84
    go_upto_region 10 with (go_at_call 92; refine (HNV.out _).mono ?_; rintro e w' ⟨rfl, rfl⟩)
    refine wp_region_seq (by kernel_rfl) (fun W => Below (w.heap.size + 1) (w.alloc (.cells #[.string nm, .int .i64 bd, .int .i64 (k : Int), .int .i64 va] 82)) W) (by kernel_rfl) (Below.refl _ _).drew ?_
    refine SeqV.step (.pointer (some ⟨w.heap.size, 3, none⟩)) (by rfl) (fun W hW => ?_) ?_
    · unfold Oper.wp
      simp [go_sem]
      try exact hW
    simp only [Act.put, List.setIfInBounds_toArray, List.set_cons_succ, List.set_cons_zero]
    refine SeqV.step (.int .i64 va) (by rfl) (fun W hW => ?_) ?_
    · have q3 := HQ3.out W hW; unfold Oper.wp
      simp [go_sem, *]
      try exact hW
    simp only [Act.put, List.setIfInBounds_toArray, List.set_cons_succ, List.set_cons_zero]
    refine SeqV.step (.bool true) (by rfl) (fun W hW => ?_) ?_
    · have q := v0; unfold Oper.wp
      simp [go_sem, *]
      try exact hW
    simp only [Act.put, List.setIfInBounds_toArray, List.set_cons_succ, List.set_cons_zero]
    refine SeqV.step (.bool true) (by rfl) (fun W hW => ?_) ?_
    · unfold Oper.wp
      simp [go_sem]
      try exact hW
    simp only [Act.put, List.setIfInBounds_toArray, List.set_cons_succ, List.set_cons_zero]
    refine SeqV.step (.pointer (some ⟨w.heap.size, 3, none⟩)) (by rfl) (fun W hW => ?_) ?_
    · unfold Oper.wp
      simp [go_sem]
      try exact hW
    simp only [Act.put, List.setIfInBounds_toArray, List.set_cons_succ, List.set_cons_zero]
    refine SeqV.step (.int .i64 va) (by rfl) (fun W hW => ?_) ?_
    · have q3 := HQ3.out W hW; unfold Oper.wp
      simp [go_sem, *]
      try exact hW
    simp only [Act.put, List.setIfInBounds_toArray, List.set_cons_succ, List.set_cons_zero]
    refine SeqV.step (.slice (some ⟨b, off, none⟩) n c) (by rfl) (fun W hW => ?_) ?_
    · unfold Oper.wp
      simp [go_sem]
      try exact hW
    simp only [Act.put, List.setIfInBounds_toArray, List.set_cons_succ, List.set_cons_zero]
    refine SeqV.step (.pointer (some ⟨w.heap.size, 2, none⟩)) (by rfl) (fun W hW => ?_) ?_
    · unfold Oper.wp
      simp [go_sem]
      try exact hW
    simp only [Act.put, List.setIfInBounds_toArray, List.set_cons_succ, List.set_cons_zero]
    refine SeqV.step (.int .i64 (k : Int)) (by rfl) (fun W hW => ?_) ?_
    · have q2 := HQ2.out W hW; unfold Oper.wp
      simp [go_sem, *]
      try exact hW
    simp only [Act.put, List.setIfInBounds_toArray, List.set_cons_succ, List.set_cons_zero]
    refine SeqV.step (.pointer (some ⟨b, off + k * 6, none⟩)) (by rfl) (fun W hW => ?_) ?_
    · have q := hki; unfold Oper.wp
      simp [go_sem, *]
      try exact hW
    simp only [Act.put, List.setIfInBounds_toArray, List.set_cons_succ, List.set_cons_zero]
    refine SeqV.step (.agg #[.string y.s.name, .int .i64 y.s.kind, .int .i64 y.s.align, .slice y.a1 y.s.bytes.length y.c1, .int .i64 y.s.size, .slice y.a2 y.s.fixs.length y.c2]) (by rfl) (fun W hW => ?_) ?_
    · obtain ⟨p0, p1, p2, p3, p4, p5⟩ := HP.out W hW; unfold Oper.wp
      simp [go_sem, *]
      try exact hW
    simp only [Act.put, List.setIfInBounds_toArray, List.set_cons_succ, List.set_cons_zero]
    refine SeqV.step (.int .i64 lg) (by rfl) (fun W hW => ?_) ?_
    · unfold Oper.wp
      simp [go_sem]
      refine (HSZ.out W hW).mono ?_; rintro e w' ⟨rfl, hb⟩; exact ⟨rfl, hW.trans (hb.mono (by have := hW.size; simpa using this))⟩
    simp only [Act.put, List.setIfInBounds_toArray, List.set_cons_succ, List.set_cons_zero]
    refine SeqV.step (.bool false) (by rfl) (fun W hW => ?_) ?_
    · have q := v1; unfold Oper.wp
      simp [go_sem, *]
      try exact hW
    simp only [Act.put, List.setIfInBounds_toArray, List.set_cons_succ, List.set_cons_zero]
    refine SeqV.step (.bool false) (by rfl) (fun W hW => ?_) ?_
    · unfold Oper.wp
      simp [go_sem]
      try exact hW
    simp only [Act.put, List.setIfInBounds_toArray, List.set_cons_succ, List.set_cons_zero]
    refine SeqV.step (.bool false) (by rfl) (fun W hW => ?_) ?_
    · unfold Oper.wp
      simp [go_sem]
      try exact hW
    simp only [Act.put, List.setIfInBounds_toArray, List.set_cons_succ, List.set_cons_zero]
    intro W hW
    go_wp2_with fail
    go_ret
    exact ⟨ret_bool HF.out.symm, ((Below.refl _ _).alloc (Nat.le_refl _) _).trans (hW.mono (by omega))⟩
  have HF : Hid (ok = true) := by show _ = _; rw [HG.out]; simp; omega
  clear HG
  go_enter Try.func84, Try.ntmps84
  go_upto_region 10 with (go_at_call 92; refine (HNV.out _).mono ?_; rintro e w' ⟨rfl, rfl⟩)
  refine wp_region_seq (by kernel_rfl) (fun W => Below (w.heap.size + 1) (w.alloc (.cells #[.string nm, .int .i64 bd, .int .i64 (k : Int), .int .i64 va] 82)) W) (by kernel_rfl) (Below.refl _ _).drew ?_
  refine SeqV.step (.pointer (some ⟨w.heap.size, 3, none⟩)) (by rfl) (fun W hW => ?_) ?_
  · unfold Oper.wp
    simp [go_sem]
    try exact hW
  simp only [Act.put, List.setIfInBounds_toArray, List.set_cons_succ, List.set_cons_zero]
  refine SeqV.step (.int .i64 va) (by rfl) (fun W hW => ?_) ?_
  · have q3 := HQ3.out W hW; unfold Oper.wp
    simp [go_sem, *]
    try exact hW
  simp only [Act.put, List.setIfInBounds_toArray, List.set_cons_succ, List.set_cons_zero]
  refine SeqV.step (.bool true) (by rfl) (fun W hW => ?_) ?_
  · have q := v0; unfold Oper.wp
    simp [go_sem, *]
    try exact hW
  simp only [Act.put, List.setIfInBounds_toArray, List.set_cons_succ, List.set_cons_zero]
  refine SeqV.step (.bool true) (by rfl) (fun W hW => ?_) ?_
  · unfold Oper.wp
    simp [go_sem]
    try exact hW
  simp only [Act.put, List.setIfInBounds_toArray, List.set_cons_succ, List.set_cons_zero]
  refine SeqV.step (.pointer (some ⟨w.heap.size, 3, none⟩)) (by rfl) (fun W hW => ?_) ?_
  · unfold Oper.wp
    simp [go_sem]
    try exact hW
  simp only [Act.put, List.setIfInBounds_toArray, List.set_cons_succ, List.set_cons_zero]
  refine SeqV.step (.int .i64 va) (by rfl) (fun W hW => ?_) ?_
  · have q3 := HQ3.out W hW; unfold Oper.wp
    simp [go_sem, *]
    try exact hW
  simp only [Act.put, List.setIfInBounds_toArray, List.set_cons_succ, List.set_cons_zero]
  refine SeqV.step (.slice (some ⟨b, off, none⟩) n c) (by rfl) (fun W hW => ?_) ?_
  · unfold Oper.wp
    simp [go_sem]
    try exact hW
  simp only [Act.put, List.setIfInBounds_toArray, List.set_cons_succ, List.set_cons_zero]
  refine SeqV.step (.pointer (some ⟨w.heap.size, 2, none⟩)) (by rfl) (fun W hW => ?_) ?_
  · unfold Oper.wp
    simp [go_sem]
    try exact hW
  simp only [Act.put, List.setIfInBounds_toArray, List.set_cons_succ, List.set_cons_zero]
  refine SeqV.step (.int .i64 (k : Int)) (by rfl) (fun W hW => ?_) ?_
  · have q2 := HQ2.out W hW; unfold Oper.wp
    simp [go_sem, *]
    try exact hW
  simp only [Act.put, List.setIfInBounds_toArray, List.set_cons_succ, List.set_cons_zero]
  refine SeqV.step (.pointer (some ⟨b, off + k * 6, none⟩)) (by rfl) (fun W hW => ?_) ?_
  · have q := hki; unfold Oper.wp
    simp [go_sem, *]
    try exact hW
  simp only [Act.put, List.setIfInBounds_toArray, List.set_cons_succ, List.set_cons_zero]
  refine SeqV.step (.agg #[.string y.s.name, .int .i64 y.s.kind, .int .i64 y.s.align, .slice y.a1 y.s.bytes.length y.c1, .int .i64 y.s.size, .slice y.a2 y.s.fixs.length y.c2]) (by rfl) (fun W hW => ?_) ?_
  · obtain ⟨p0, p1, p2, p3, p4, p5⟩ := HP.out W hW; unfold Oper.wp
    simp [go_sem, *]
    try exact hW
  simp only [Act.put, List.setIfInBounds_toArray, List.set_cons_succ, List.set_cons_zero]
  refine SeqV.step (.int .i64 lg) (by rfl) (fun W hW => ?_) ?_
  · unfold Oper.wp
    simp [go_sem]
    refine (HSZ.out W hW).mono ?_; rintro e w' ⟨rfl, hb⟩; exact ⟨rfl, hW.trans (hb.mono (by have := hW.size; simpa using this))⟩
  simp only [Act.put, List.setIfInBounds_toArray, List.set_cons_succ, List.set_cons_zero]
  refine SeqV.step (.bool true) (by rfl) (fun W hW => ?_) ?_
  · have q := v1; unfold Oper.wp
    simp [go_sem, *]
    try exact hW
  simp only [Act.put, List.setIfInBounds_toArray, List.set_cons_succ, List.set_cons_zero]
  refine SeqV.step (.bool true) (by rfl) (fun W hW => ?_) ?_
  · unfold Oper.wp
    simp [go_sem]
    try exact hW
  simp only [Act.put, List.setIfInBounds_toArray, List.set_cons_succ, List.set_cons_zero]
  refine SeqV.step (.bool true) (by rfl) (fun W hW => ?_) ?_
  · unfold Oper.wp
    simp [go_sem]
    try exact hW
  simp only [Act.put, List.setIfInBounds_toArray, List.set_cons_succ, List.set_cons_zero]
  intro W hW
  go_wp2_with fail
  go_ret
  exact ⟨ret_bool HF.out.symm, ((Below.refl _ _).alloc (Nat.le_refl _) _).trans (hW.mono (by omega))⟩
theorem wantSymbolValid : WantSymbolValid := fun w B m a c l h hB hlen hm hl => symbolValid_any wantSectionSize w B m a c l.length l rfl h hB hlen hm.name hl

end Go.Proofs.Ytiocchmlmcoieaa
/- A set of names on the heap. The two halves of what a valid object is: its parts, and its names. A map from names to symbols on the heap. -/
/- A set of names on the heap. -/
namespace Go.Proofs.Ytiocchmlmcoieaa
open Go.RowKit Go.Maps Go.WideMaps

/-- The key of a name. -/
def klS (s : ByteArray) : Lit := .string s.data.toList
theorem klS_ne {s t : ByteArray} (h : s ≠ t) : klS s ≠ klS t := by
  intro e
  apply h
  unfold klS at e
  injection e with e
  exact ByteArray.ext (Array.toList_inj.1 e)
theorem klS_key (s : ByteArray) : WideAt.IsKeyLit (klS s) := trivial
theorem klS_of {s : ByteArray} (hs : s.size ≤ maxLen) : keyOf Try.prog 9 (.string s) = some (klS s) := keyOf_string_mk Try.underlying9 hs
theorem Try.law_str : Keyed Try.prog 9 := string_keyed Try.underlying9
/-- Is the name one of these? -/
def memS (S : List ByteArray) (s : ByteArray) : Bool := S.any fun t => decide (t = s)
theorem memS_iff {S : List ByteArray} {s : ByteArray} : memS S s = true ↔ s ∈ S := by
  unfold memS
  rw [List.any_eq_true]
  constructor
  · rintro ⟨t, ht, e⟩; have := of_decide_eq_true e; rwa [← this]
  · intro h; exact ⟨s, h, by simp⟩
theorem memS_not {S : List ByteArray} {s : ByteArray} (h : s ∉ S) : memS S s = false := by
  cases e : memS S s with
  | false => rfl
  | true => exact absurd (memS_iff.1 e) h
/-- A map that holds these names, and no others. -/
def NamSet (w : World) (b cnt : Nat) (S : List ByteArray) : Prop := ∃ D : DataW Unit, w.ownsMap Try.prog 9 (plainElem Try.prog 4) b cnt D ∧ (∀ s, Maps.has D (klS s) = memS S s) ∧ ∀ s, s ∈ S → ∀ z, D.atKey (klS s) z = .lit (.bool true)
theorem NamSet.lt {w : World} {b cnt : Nat} {S : List ByteArray} (h : NamSet w b cnt S) : b < w.heap.size := by
  obtain ⟨D, h1, _⟩ := h
  exact h1.lt
theorem NamSet.new (w : World) (n : Nat) : NamSet (w.alloc (.map #[] 0)) w.heap.size n [] :=
  ⟨.map [], (World.ownsMap_made w Try.prog 9 _).mono (Nat.zero_le _), fun s => by simp [Maps.has, memS], fun s hs => absurd hs (by simp)⟩
theorem NamSet.kept {w w' : World} {b cnt : Nat} {S : List ByteArray} {row : Option Nat} (h : NamSet w b cnt S) (hg : w.grownBy w' row) (hne : some b ≠ row) : NamSet w' b cnt S := by
  obtain ⟨D, h1, h2, h3⟩ := h
  exact ⟨D, h1.kept hg hne, h2, h3⟩
theorem NamSet.more {w : World} {b cnt c : Nat} {S : List ByteArray} (h : NamSet w b cnt S) (hc : cnt ≤ c) : NamSet w b c S := by
  obtain ⟨D, h1, h2⟩ := h
  exact ⟨D, h1.mono hc, h2⟩































end Go.Proofs.Ytiocchmlmcoieaa
/- The two halves of what a valid object is: its parts, and its names. -/
namespace Go.Proofs.Ytiocchmlmcoieaa
open Go.RowKit

/-- Are there few sections and symbols, and is each valid? -/
def partsOk (ss : List Sx) (ms : List Sm) : Bool := ss.all (fun y => sectOk y ms.length) && (ms.all (fun z => symOk z ss) && (decide (ss.length ≤ 8) && decide (ms.length ≤ 12)))
/-- Do these symbols, behind those, clash with none? -/
def apart : List Sm → List Sm → Bool
  | _, [] => true
  | d, z :: r => d.all (fun x => !clash x z) && apart (d ++ [z]) r
theorem symsOk_split (ss : List Sx) : ∀ (ms d : List Sm), symsOk ss d ms = (ms.all (fun z => symOk z ss) && apart d ms)
  | [], d => by unfold symsOk apart; rfl
  | z :: r, d => by
    rw [symsOk, apart, List.all_cons, symsOk_split ss r (d ++ [z])]
    cases symOk z ss <;> cases (d.all fun x => !clash x z) <;> cases (r.all fun z => symOk z ss) <;> simp
theorem objOk_split (ss : List Sx) (ms : List Sm) : objOk ss ms = (partsOk ss ms && apart [] ms) := by
  unfold objOk partsOk
  rw [symsOk_split]
  cases ss.all (fun y => sectOk y ms.length) <;> cases ms.all (fun z => symOk z ss) <;> cases apart [] ms <;> simp
/-- The symbols that are not local. -/
def opens (ms : List Sm) : List Sm := ms.filter fun x => decide (x.bind ≠ 0)
theorem opens_clash (d : List Sm) (z : Sm) (h : z.bind ≠ 0) : d.all (fun x => !clash x z) = !memS ((opens d).map Sm.name) z.name := by
  induction d with
  | nil => rfl
  | cons x r ih =>
    rw [List.all_cons, ih]
    unfold opens
    by_cases hx : x.bind = 0
    · rw [List.filter_cons_of_neg (by simp [hx])]
      simp [clash, hx]
    · rw [List.filter_cons_of_pos (by simp [hx]), List.map_cons]
      by_cases hn : x.name = z.name <;> simp [clash, memS, hx, h, hn]
theorem opens_clash0 (d : List Sm) (z : Sm) (h : z.bind = 0) : d.all (fun x => !clash x z) = true := by
  rw [List.all_eq_true]
  intro x _
  simp [clash, h]
theorem opens_snoc (d : List Sm) (z : Sm) : opens (d ++ [z]) = opens d ++ if z.bind = 0 then [] else [z] := by
  unfold opens
  rw [List.filter_append]
  by_cases h : z.bind = 0
  · rw [if_pos h, List.filter_cons_of_neg (by simp [h])]; simp
  · rw [if_neg h, List.filter_cons_of_pos (by simp [h])]; simp
theorem opens_length (ms : List Sm) : (opens ms).length ≤ ms.length := List.length_filter_le _ _
theorem opens_wants {ss : List Sx} {ms : List Sm} (h : partsOk ss ms = true) : (opens ms).filter (fun m => decide (m.loc = -1)) = ms.filter wants := by
  unfold opens
  rw [List.filter_filter]
  apply List.filter_congr
  intro x hx
  unfold wants
  by_cases e : x.loc = -1
  · have hb : x.bind ≠ 0 := by
      unfold partsOk at h
      simp only [Bool.and_eq_true, List.all_eq_true] at h
      have hs := h.2.1 x hx
      unfold symOk at hs
      simp only [e, if_true, Bool.and_eq_true, decide_eq_true_eq] at hs
      exact hs.2.2
    simp [e, hb]
  · simp [e]
theorem opens_gives (ms : List Sm) : (opens ms).filter (fun m => decide (m.loc ≠ -1)) = ms.filter gives := by
  unfold opens
  rw [List.filter_filter]
  apply List.filter_congr
  intro x hx
  unfold gives
  rfl
/-- Names that are met once each, sorted, are the names put in one by one. -/
theorem sorted_once {ns names : List ByteArray} (hn : ns.Nodup) (hm : ∀ s, s ∈ ns ↔ s ∈ names) : ((ns.map fun s => s.data.toList).mergeSort fun x y => decide (x ≤ y)).map strL = names.foldl insertS [] := by
  obtain ⟨zs, hz⟩ : ∃ zs, (ns.map fun s => s.data.toList).mergeSort (fun x y => decide (x ≤ y)) = zs := ⟨_, rfl⟩
  have hp : zs.Pairwise (fun x y => decide (x ≤ y) = true) := by
    rw [← hz]
    exact List.pairwise_mergeSort (fun a b c h1 h2 => by simp only [decide_eq_true_eq] at *; exact List.le_trans h1 h2) (fun a b => by
      simp only [Bool.or_eq_true, decide_eq_true_eq]; exact List.le_total a b) _
  have hnd : zs.Nodup := by
    rw [← hz, (List.mergeSort_perm _ _).nodup_iff]
    unfold List.Nodup at hn ⊢
    rw [List.pairwise_map]
    exact hn.imp fun {a b} h e => h (ByteArray.ext (Array.toList_inj.1 e))
  rw [hz]
  apply sorted_ext
  · unfold SortedS
    rw [List.pairwise_map]
    refine (hp.and hnd).imp fun {a b} h => ?_
    rw [ltS_strL, bytesLess_eq, decide_eq_true_eq]
    have h1 : a ≤ b := of_decide_eq_true h.1
    rcases less_or a b with h2 | h2 | h2
    · rwa [bytesLess_eq, decide_eq_true_eq] at h2
    · exact absurd h2 h.2
    · rw [bytesLess_eq, decide_eq_true_eq] at h2
      exact absurd h2 (List.not_lt.2 h1)
  · exact sorted_fold names [] List.Pairwise.nil
  · intro x
    rw [mem_fold_iff, List.mem_map, ← hm x]
    constructor
    · rintro ⟨l, hl, rfl⟩
      rw [← hz] at hl
      obtain ⟨s, hs, rfl⟩ := List.mem_map.1 (List.mem_mergeSort.1 hl)
      rw [strL_data]; exact .inr hs
    · rintro (h | h)
      · cases h
      · exact ⟨x.data.toList, by rw [← hz]; exact List.mem_mergeSort.2 (List.mem_map.2 ⟨x, h, rfl⟩), strL_data x⟩

end Go.Proofs.Ytiocchmlmcoieaa
/- A map from names to symbols on the heap. -/
namespace Go.Proofs.Ytiocchmlmcoieaa
open Go.RowKit Go.Maps Go.WideMaps

/-- How a symbol reads. -/
def symD (m : Sm) : DataW Unit := .agg [.lit (.string m.name.data.toList), .lit (.int .i64 m.bind), .lit (.int .i64 m.loc), .lit (.int .i64 m.value)]
def symElem (v : Value) : Option (DataW Unit × List MemPlace) :=
  match v with
  | .agg cs =>
    match cs.toList with
    | [.string s, .int .i64 a, .int .i64 b, .int .i64 c] => some (symD ⟨s, a, b, c⟩, [])
    | _ => none
  | _ => none
theorem symElem_mk (m : Sm) : symElem m.agg = some (symD m, []) := rfl
theorem symElem_inv {v : Value} {y : DataW Unit × List MemPlace} (h : symElem v = some y) : ∃ m : Sm, v = m.agg := by
  unfold symElem at h
  split at h
  · rename_i cs
    split at h
    · rename_i s a b c e
      refine ⟨⟨s, a, b, c⟩, ?_⟩
      have e2 : cs = #[.string s, .int .i64 a, .int .i64 b, .int .i64 c] := by rw [← Array.toArray_toList (xs := cs), e]
      rw [e2]; rfl
    · cases h
  · cases h
theorem symD_inj {x y : Sm} (h : symD x = symD y) : x = y := by
  obtain ⟨s, a, b, c⟩ := x
  obtain ⟨s', a', b', c'⟩ := y
  simp only [symD, DataW.agg.injEq, List.cons.injEq, DataW.lit.injEq, Lit.string.injEq, Lit.int.injEq, true_and, and_true] at h
  obtain ⟨h1, rfl, rfl, rfl⟩ := h
  have : s = s' := ByteArray.ext (Array.toList_inj.1 h1)
  rw [this]
/-- A map that holds these symbols by their names, and no others. -/
structure SymMap (w : World) (b cnt : Nat) (D : DataW Unit) (S : List Sm) : Prop where
  own : w.ownsMap Try.prog 9 symElem b cnt D
  has : ∀ s, Maps.has D (klS s) = memS (S.map Sm.name) s
  at_ : ∀ x, x ∈ S → ∀ z, D.atKey (klS x.name) z = symD x
section
variable {w w' : World} {b cnt : Nat} {D : DataW Unit} {S : List Sm}
theorem SymMap.new (w : World) : SymMap (w.alloc (.map #[] 0)) w.heap.size 0 (.map []) [] :=
  ⟨World.ownsMap_made w Try.prog 9 _, fun s => by simp [Maps.has, memS], fun x hx => absurd hx (by simp)⟩
theorem SymMap.lt (h : SymMap w b cnt D S) : b < w.heap.size := h.own.lt
theorem SymMap.kept {row : Option Nat} (h : SymMap w b cnt D S) (hg : w.grownBy w' row) (hne : some b ≠ row) : SymMap w' b cnt D S :=
  ⟨h.own.kept hg hne, h.has, h.at_⟩
theorem SymMap.more {c : Nat} (h : SymMap w b cnt D S) (hc : cnt ≤ c) : SymMap w b c D S := ⟨h.own.mono hc, h.has, h.at_⟩
/-- Is there a symbol with the name? -/
theorem SymMap.look (h : SymMap w b cnt D S) {s : ByteArray} (hs : s.size ≤ maxLen) : ∃ m : Sm, (Instr.lookup 88 (.map (some b)) (.string s) true).run Try.prog w = .ok (.tuple #[m.agg, .bool (memS (S.map Sm.name) s)]) w := by
  obtain ⟨v, ps, hrun, hv⟩ := h.own.look_ok Try.law_str Try.underlying88 (z := Sm.agg ⟨⟨#[]⟩, 0, 0, 0⟩) (by kernel_rfl) (symElem_mk _) (klS_of hs)
  obtain ⟨m, rfl⟩ := symElem_inv hv
  exact ⟨m, by rw [hrun, h.has]⟩
/-- A symbol is put in. -/
theorem SymMap.put (h : SymMap w b cnt D S) {x : Sm} (hs : x.name.size ≤ maxLen) (hc : cnt < maxLen) (hno : x.name ∉ S.map Sm.name) : ∃ w' D', (Instr.mapUpdate 88 (.map (some b)) (.string x.name) x.agg).run Try.prog w = .ok () w' ∧ SymMap w' b (cnt + 1) D' (S ++ [x]) ∧ w.grownBy w' (some b) := by
  obtain ⟨w', hrun, ho, hg⟩ := h.own.update Try.law_str Try.underlying88 hc (klS_of hs) (val := x.agg) (d := symD x) (ps := []) (symElem_mk x)
  refine ⟨w', _, hrun, ⟨ho, fun t => ?_, fun y hy z => ?_⟩, hg⟩
  · by_cases e : t = x.name
    · subst e; rw [has_put_same h.own.isMap (klS_key _)]; simp [memS]
    · rw [has_put_other (klS_ne e), h.has t]; simp [memS, show ¬ x.name = t from fun q => e q.symm]
  · rcases List.mem_append.1 hy with hy | hy
    · have e : y.name ≠ x.name := fun q => hno (by rw [← q]; exact List.mem_map_of_mem hy)
      rw [atKey_put_other (klS_ne e), h.at_ y hy]
    · simp only [List.mem_singleton] at hy
      subst hy
      rw [atKey_put_same h.own.isMap (klS_key _)]
/-- What lies at a name. -/
theorem SymMap.found (h : SymMap w b cnt D S) {s : ByteArray} {m : Sm} (ha : ∀ z, D.atKey (klS s) z = symD m) : m ∈ S ∧ m.name = s := by
  have h1 : Maps.has D (klS s) = true := has_true_of_atKey ha
  rw [h.has s, memS_iff] at h1
  obtain ⟨x, hx, e⟩ := List.mem_map.1 h1
  have h2 := h.at_ x hx (.lit (.bool true))
  rw [e, ha] at h2
  have e2 := symD_inj h2
  subst e2
  exact ⟨hx, e⟩
end
/-- The names that have been met, of the symbols that are taken. -/
structure Met (q : Sm → Bool) (S : List Sm) (left : Lit → Bool) (ns : List ByteArray) : Prop where
  once : ns.Nodup
  mem : ∀ s, s ∈ ns ↔ left (klS s) = false ∧ ∃ x, x ∈ S ∧ q x = true ∧ x.name = s
section
variable {w : World} {b cnt : Nat} {D : DataW Unit} {S : List Sm} {q : Sm → Bool} {left : Lit → Bool} {ns : List ByteArray}
theorem Met.start (h : SymMap w b cnt D S) : Met q S (Maps.has D) [] := ⟨List.nodup_nil, fun s => by
  constructor
  · intro e; cases e
  · rintro ⟨h1, x, hx, _, rfl⟩
    rw [h.has, memS_iff.2 (List.mem_map_of_mem hx)] at h1
    cases h1⟩
theorem same_klS (s t : ByteArray) : (klS t).sameKey (klS s) = decide (t = s) := by
  by_cases e : t = s
  · subst e; simp [klS, Lit.sameKey]
  · have h := klS_ne e
    unfold klS at h ⊢
    simp only [Lit.sameKey, e, decide_false]
    simpa using h
theorem Met.took (h : SymMap w b cnt D S) (hM : Met q S left ns) {m : Sm} (hl : left (klS m.name) = true) (ha : ∀ z, D.atKey (klS m.name) z = symD m) (hq : q m = true) : Met q S (fun z => left z && !z.sameKey (klS m.name)) (ns ++ [m.name]) := by
  have hnew : m.name ∉ ns := fun e => by have := ((hM.mem _).1 e).1; rw [hl] at this; cases this
  refine ⟨List.nodup_append.2 ⟨hM.once, by simp, fun a ha b hb => by simp at hb; subst hb; exact fun e => hnew (e ▸ ha)⟩, fun s => ?_⟩
  rw [List.mem_append, List.mem_singleton, hM.mem s, same_klS]
  by_cases e : s = m.name
  · subst e
    simp only [or_true, decide_true, Bool.not_true, Bool.and_false, true_and, true_iff]
    exact ⟨m, (h.found ha).1, hq, rfl⟩
  · simp [e]
theorem Met.left_ (h : SymMap w b cnt D S) (hM : Met q S left ns) {m : Sm} (hl : left (klS m.name) = true) (ha : ∀ z, D.atKey (klS m.name) z = symD m) (hq : q m = false) : Met q S (fun z => left z && !z.sameKey (klS m.name)) ns := by
  refine ⟨hM.once, fun s => ?_⟩
  rw [hM.mem s, same_klS]
  by_cases e : s = m.name
  · subst e
    simp only [decide_true, Bool.not_true, Bool.and_false, true_and, hl, Bool.true_eq_false, false_and, false_iff]
    rintro ⟨x, hx, hqx, e⟩
    have h2 := h.at_ x hx (.lit (.bool true))
    rw [e, ha] at h2
    rw [← symD_inj h2, hq] at hqx
    cases hqx
  · simp [e]
theorem Met.done (hM : Met q S left ns) (hl : ∀ kl, left kl = false) (s : ByteArray) : s ∈ ns ↔ s ∈ (S.filter q).map Sm.name := by
  rw [hM.mem, hl, List.mem_map]
  simp only [true_and, List.mem_filter]
  constructor
  · rintro ⟨x, h1, h2, h3⟩; exact ⟨x, ⟨h1, h2⟩, h3⟩
  · rintro ⟨x, ⟨h1, h2⟩, h3⟩; exact ⟨x, h1, h2, h3⟩
end

end Go.Proofs.Ytiocchmlmcoieaa
/- impl.partsValid, impl.openSymbols and impl.ObjectValid: a valid object's symbols that are not local lie in a map by their names. -/
namespace Go.Proofs.Ytiocchmlmcoieaa
open Go.RowKit

set_option maxRecDepth 100000 in
set_option maxHeartbeats 2000000 in
theorem partsValid_any (w : World) (B : Nat) (a1 a2 : Option Addr) (c1 c2 n m : Nat) (l : List Sp) (ms : List Sm) (hn : n = l.length) (hm : m = ms.length) (h1 : Sects w B a1 l) (h2 : Syms w B a2 ms) (hB : B ≤ w.heap.size) (hlen : n ≤ 9223372036854775807) (hlem : m ≤ 9223372036854775807)
    (hl : ∀ y ∈ l, y.s.fits) (hs : ∀ x ∈ ms, x.fits) :
    Calls Try.prog 71 #[.agg #[.slice a1 n c1, .slice a2 m c2]] w fun e w' => e = .returned (.bool (partsOk (l.map Sp.s) ms)) ∧ Below w.heap.size w w' := by
  obtain ⟨ok, hok⟩ : ∃ ok, ok = partsOk (l.map Sp.s) ms := ⟨_, rfl⟩
  have HOK : Hid (ok = (l.all (fun y => sectOk y.s m) && (ms.all (fun z => symOk z (l.map Sp.s)) && (decide (n ≤ 8) && decide (m ≤ 12))))) := by
    show _ = _
    rw [hok, hn, hm]
    unfold partsOk
    rw [List.all_map, List.length_map]
    rfl
  rw [← hok]
  have HN := hidden hn
  have HM := hidden hm
  have H1 := hidden h1
  have H2 := hidden h2
  have HL := hidden hl
  have HS := hidden hs
  have HB := hidden hB
  have HSV : Hid (∀ W, Below w.heap.size w W → ∀ x ∈ ms, Calls Try.prog 84 #[x.agg, .slice a1 n c1] W fun e w' => e = .returned (.bool (symOk x (l.map Sp.s))) ∧ Below W.heap.size W w') := fun W hW x hx => by
    have := wantSymbolValid W B x a1 c1 l (h1.below (hW.mono hB)) (Nat.le_trans hB hW.size) (by omega) (hs x hx) hl
    rwa [← hn] at this
  clear hok hn hm h1 h2 hl hs
  go_enter Try.func71, Try.ntmps71
  by_cases hn8 : (8 : Int) < (n : Int)
  · have hF : ok = false := by rw [HOK.out, show decide (n ≤ 8) = false by simp; omega]; simp
    have HF := hidden hF
    clear hF HOK
    go_wp2_with fail
    go_ret
    exact ⟨ret_bool HF.out.symm, (Below.refl _ _).alloc (Nat.le_refl _) _⟩
  by_cases hm12 : (12 : Int) < (m : Int)
  · have hF : ok = false := by rw [HOK.out, show decide (m ≤ 12) = false by simp; omega]; simp
    have HF := hidden hF
    clear hF HOK
    go_wp2_with fail
    go_ret
    exact ⟨ret_bool HF.out.symm, (Below.refl _ _).alloc (Nat.le_refl _) _⟩
  have HOK2 : Hid (ok = (l.all (fun y => sectOk y.s m) && ms.all (fun z => symOk z (l.map Sp.s)))) := by
    show _ = _
    rw [HOK.out, show decide (n ≤ 8) = true by simp; omega, show decide (m ≤ 12) = true by simp; omega]; simp
  clear HOK
  go_wp2_with fail
  go_loopw [20] (fun i wr => ∃ k : Nat, i = .int .i64 k ∧ k ≤ n ∧ Hid (l.all (fun y => sectOk y.s m) = (l.drop k).all (fun y => sectOk y.s m)) ∧ Below (w.heap.size + 1) (w.alloc (.cells #[.slice a1 n c1, .slice a2 m c2] 29)) wr) (fun i _ => n - (intOf i).toNat)
  case atStart => exact ⟨0, rfl, Nat.zero_le _, hidden (by simp), Below.refl _ _⟩
  case round =>
    obtain ⟨k, rfl, hk, hall, hbw⟩ := hrel
    have hb0 : Below w.heap.size w wr := ((Below.refl _ _).alloc (Nat.le_refl _) _).trans (hbw.mono (Nat.le_succ _))
    have hsz : w.heap.size + 1 ≤ wr.heap.size := by have := hbw.size; simpa using this
    have HC0 : Hid (∀ W, Below wr.heap.size wr W → W.cell? ⟨w.heap.size, 0, none⟩ = some (.slice a1 n c1)) := fun W hW => ((hW.cell (by show w.heap.size < _; omega)).trans (hbw.cell (Nat.lt_succ_self _))).trans ((Has.new w 29 _).cell 0)
    have HC1 : Hid (∀ W, Below wr.heap.size wr W → W.cell? ⟨w.heap.size, 1, none⟩ = some (.slice a2 m c2)) := fun W hW => ((hW.cell (by show w.heap.size < _; omega)).trans (hbw.cell (Nat.lt_succ_self _))).trans ((Has.new w 29 _).cell 1)
    by_cases hlt : k < n
    · have hi : (k : Int) < (n : Int) := by omega
      have hkl : k < l.length := by rw [← HN.out]; exact hlt
      obtain ⟨b, off, rfl, hb, hp⟩ := H1.out.at_ hkl
      obtain ⟨y, hy⟩ : ∃ y, l[k] = y := ⟨_, rfl⟩
      rw [hy] at hp
      have hmem : y ∈ l := by rw [← hy]; exact List.getElem_mem hkl
      have hpr : SecAt wr b (off + k * 6) y := hp.keep fun i => by rw [hb0.cell (by show b < _; have := HB.out; omega)]
      obtain ⟨p0, p1, p2, p3, p4, p5⟩ := hpr
      have HD : Hid (l.drop k = y :: l.drop (k + 1)) := by show _ = _; rw [List.drop_eq_getElem_cons hkl, hy]
      obtain ⟨sok, hsok⟩ : ∃ b, sectOk y.s m = b := ⟨_, rfl⟩
      have HSO := hidden hsok
      have HC : Hid (∀ W, Below wr.heap.size wr W → Calls Try.prog 83 #[.agg #[.string y.s.name, .int .i64 y.s.kind, .int .i64 y.s.align, .slice y.a1 y.s.bytes.length y.c1, .int .i64 y.s.size, .slice y.a2 y.s.fixs.length y.c2], .int .i64 m] W fun e w' => e = .returned (.bool sok) ∧ Below W.heap.size W w') := fun W hW => by
        have hBW : Below w.heap.size w W := hb0.trans (hW.mono hb0.size)
        have := wantSectionValid W B y.s m y.a1 y.c1 y.a2 y.c2 ((H1.out.bytes y hmem).below (hBW.mono HB.out)) ((H1.out.fixs y hmem).below (hBW.mono HB.out)) (Nat.le_trans HB.out hBW.size) (HL.out y hmem) ⟨by omega, by omega⟩
        rwa [HSO.out] at this
      have x1 := HC1.out (wr.alloc (.cells #[.string y.s.name, .int .i64 y.s.kind, .int .i64 y.s.align, .slice y.a1 y.s.bytes.length y.c1, .int .i64 y.s.size, .slice y.a2 y.s.fixs.length y.c2] 42)) ((Below.refl _ _).alloc (Nat.le_refl _) _)
      have hW1 : Below wr.heap.size wr (wr.alloc (.cells #[.string y.s.name, .int .i64 y.s.kind, .int .i64 y.s.align, .slice y.a1 y.s.bytes.length y.c1, .int .i64 y.s.size, .slice y.a2 y.s.fixs.length y.c2] 42)) := (Below.refl _ _).alloc (Nat.le_refl _) _
      clear hp hy hmem hkl hsok
      go_wp2_with fail
      refine (HC.out _ hW1).mono ?_
      clear HC
      rintro e w2 ⟨rfl, hb2⟩
      have hBw2 := hW1.trans (hb2.mono hW1.size)
      clear p0 p1 p2 p3 p4 p5 x1 hW1 hb2 HC0 HC1
      rcases sok with _ | _
      · have HF : Hid (ok = false) := by show _ = _; rw [HOK2.out, hall.out, HD.out, List.all_cons, HSO.out]; simp
        go_wp2_with fail
        go_ret
        exact ⟨ret_bool HF.out.symm, hb0.trans (hBw2.mono hb0.size)⟩
      · have HN2 : Hid (l.all (fun y => sectOk y.s m) = (l.drop (k + 1)).all (fun y => sectOk y.s m)) := by show _ = _; rw [hall.out, HD.out, List.all_cons, HSO.out, Bool.true_and]
        have hbw2 : Below (w.heap.size + 1) (w.alloc (.cells #[.slice (some ⟨b, off, none⟩) n c1, .slice a2 m c2] 29)) w2 := hbw.trans (hBw2.mono (by simpa using hbw.size))
        go_wp2_with fail
        go_roundw
        case rel => exact ⟨k + 1, by go_num, by omega, HN2, hbw2⟩
        case measure => simp [intOf]; omega
    · have hi : ¬ (k : Int) < (n : Int) := by omega
      have HA : Hid (ok = ms.all (fun z => symOk z (l.map Sp.s))) := by
        show _ = _
        have hd : l.drop k = [] := List.drop_eq_nil_of_le (by rw [← HN.out]; omega)
        rw [HOK2.out, hall.out, hd]; simp
      have x1' := HC1.out wr (Below.refl _ _)
      have HBW := hidden hbw
      clear hall HOK2
      go_wp2_with fail
      clear x1' hbw hb0 hsz HC0 HC1 hlt hi hk
      go_loopw [34] (fun i wq => ∃ k : Nat, i = .int .i64 k ∧ k ≤ m ∧ Hid (ms.all (fun z => symOk z (l.map Sp.s)) = (ms.drop k).all (fun z => symOk z (l.map Sp.s))) ∧ Below (w.heap.size + 1) (w.alloc (.cells #[.slice a1 n c1, .slice a2 m c2] 29)) wq) (fun i _ => m - (intOf i).toNat)
      case atStart => exact ⟨0, rfl, Nat.zero_le _, hidden (by simp), HBW.out⟩
      case round =>
        obtain ⟨k, rfl, hk, hall, hbw⟩ := hrel
        clear HBW
        have hb0 : Below w.heap.size w wr := ((Below.refl _ _).alloc (Nat.le_refl _) _).trans (hbw.mono (Nat.le_succ _))
        have hsz : w.heap.size + 1 ≤ wr.heap.size := by have := hbw.size; simpa using this
        have HC0 : Hid (∀ W, Below wr.heap.size wr W → W.cell? ⟨w.heap.size, 0, none⟩ = some (.slice a1 n c1)) := fun W hW => ((hW.cell (by show w.heap.size < _; omega)).trans (hbw.cell (Nat.lt_succ_self _))).trans ((Has.new w 29 _).cell 0)
        by_cases hlt : k < m
        · have hi : (k : Int) < (m : Int) := by omega
          have hkl : k < ms.length := by rw [← HM.out]; exact hlt
          obtain ⟨b, off, rfl, hb, p0, p1, p2, p3⟩ := (H2.out.below (hb0.mono HB.out)).at_ hkl
          obtain ⟨z, hz⟩ : ∃ z, ms[k] = z := ⟨_, rfl⟩
          rw [hz] at p0 p1 p2 p3
          have HD : Hid (ms.drop k = z :: ms.drop (k + 1)) := by show _ = _; rw [List.drop_eq_getElem_cons hkl, hz]
          have hzm : z ∈ ms := by rw [← hz]; exact List.getElem_mem hkl
          have hW1 : Below wr.heap.size wr (wr.alloc (.cells #[.string z.name, .int .i64 z.bind, .int .i64 z.loc, .int .i64 z.value] 82)) := (Below.refl _ _).alloc (Nat.le_refl _) _
          have HC := hidden (HSV.out _ (hb0.trans (hW1.mono hb0.size)) z hzm)
          obtain ⟨sok, hsok⟩ : ∃ q, symOk z (l.map Sp.s) = q := ⟨_, rfl⟩
          rw [hsok] at HC
          have HSO := hidden hsok
          have x0 := HC0.out _ hW1
          unfold Sm.agg at HC
          clear hz hkl hsok
          go_wp2_with fail
          refine HC.out.mono ?_
          clear HC
          rintro e w2 ⟨rfl, hb2⟩
          have hBw2 := hW1.trans (hb2.mono hW1.size)
          have hbw2 := hidden (hbw.trans (hBw2.mono (by simpa using hbw.size)))
          have hfin := hidden (hb0.trans (hBw2.mono hb0.size))
          clear p0 p1 p2 p3 x0 hW1 hb2
          rcases sok with _ | _
          · have HF : Hid (ok = false) := by show _ = _; rw [HA.out, hall.out, HD.out, List.all_cons, HSO.out]; simp
            go_wp2_with fail
            go_ret
            exact ⟨ret_bool HF.out.symm, hfin.out⟩
          · have HN2 : Hid (ms.all (fun z => symOk z (l.map Sp.s)) = (ms.drop (k + 1)).all (fun z => symOk z (l.map Sp.s))) := by show _ = _; rw [hall.out, HD.out, List.all_cons, HSO.out, Bool.true_and]
            go_wp2_with fail
            go_roundw
            case rel => exact ⟨k + 1, by go_num, by omega, HN2, hbw2.out⟩
            case measure => simp [intOf]; omega
        · have hi : ¬ (k : Int) < (m : Int) := by omega
          have HF : Hid (ok = true) := by
            show _ = _
            have hd : ms.drop k = [] := List.drop_eq_nil_of_le (by rw [← HM.out]; omega)
            rw [HA.out, hall.out, hd]; rfl
          clear hall
          go_wp2_with fail
          go_ret
          exact ⟨ret_bool HF.out.symm, hb0⟩
theorem grown_below {w w' : World} (h : Below w.heap.size w w') : w.grownBy w' none := ⟨h.os, h.tape, h.output, h.size, fun i hi _ => h.block i hi⟩
/-- What comes of an object: a map of its symbols that are not local, if it is valid. -/
def Opened (w : World) (ok : Bool) (ms : List Sm) (e : Ending) (w' : World) : Prop :=
  Below w.heap.size w w' ∧ (ok = false → e = .returned (.tuple #[.map none, .bool false])) ∧ (ok = true → ∃ b D, e = .returned (.tuple #[.map (some b), .bool true]) ∧ w.heap.size ≤ b ∧ ms.length ≤ 12 ∧ SymMap w' b 12 D (opens ms))
set_option maxRecDepth 100000 in
set_option maxHeartbeats 2000000 in
theorem openSymbols_any (w : World) (B : Nat) (a1 a2 : Option Addr) (c1 c2 n m : Nat) (l : List Sp) (ms : List Sm) (hn : n = l.length) (hm : m = ms.length) (h1 : Sects w B a1 l) (h2 : Syms w B a2 ms) (hB : B ≤ w.heap.size) (hlen : n ≤ 9223372036854775807) (hlem : m ≤ 9223372036854775807)
    (hl : ∀ y ∈ l, y.s.fits) (hs : ∀ x ∈ ms, x.fits) :
    Calls Try.prog 51 #[.agg #[.slice a1 n c1, .slice a2 m c2]] w (Opened w (objOk (l.map Sp.s) ms) ms) := by
  have hmm := @run_makeMap Try.prog
  have HPV := hidden (fun (W : World) (hW : Below w.heap.size w W) => partsValid_any W B a1 a2 c1 c2 n m l ms hn hm (h1.below (hW.mono hB)) (h2.below (hW.mono hB)) (Nat.le_trans hB hW.size) hlen hlem hl hs)
  obtain ⟨ok, hok⟩ : ∃ ok, ok = objOk (l.map Sp.s) ms := ⟨_, rfl⟩
  obtain ⟨pk, hpk⟩ : ∃ pk, partsOk (l.map Sp.s) ms = pk := ⟨_, rfl⟩
  have HOK : Hid (ok = (pk && apart [] ms)) := by show _ = _; rw [hok, objOk_split, hpk]
  have HMS : Hid (pk = true → ms.length ≤ 12) := fun e => by rw [← hpk] at e; unfold partsOk at e; simp only [Bool.and_eq_true, decide_eq_true_eq] at e; exact e.2.2.2
  rw [← hok]
  rw [hpk] at HPV
  have HM := hidden hm
  have H2 := hidden h2
  have HS := hidden hs
  have HB := hidden hB
  clear hok hpk hn hm h1 h2 hl hs hB
  go_enter Try.func51, Try.ntmps51
  have hb0 : Below w.heap.size w (w.alloc (.cells #[.slice a1 n c1, .slice a2 m c2] 29)) := (Below.refl _ _).alloc (Nat.le_refl _) _
  have hC := HPV.out _ hb0
  have HC := hidden hC
  clear hC HPV
  go_wp2_with fail
  refine HC.out.mono ?_
  clear HC
  rintro e w1 ⟨rfl, hb1⟩
  have hbw1 : Below (w.heap.size + 1) (w.alloc (.cells #[.slice a1 n c1, .slice a2 m c2] 29)) w1 := hb1.mono (by simp)
  have hbx1 : Below w.heap.size w w1 := hb0.trans (hbw1.mono (Nat.le_succ _))
  clear hb0 hb1
  rcases pk with _ | _
  · have HF : Hid (ok = false) := by show _ = _; rw [HOK.out]; rfl
    go_wp2_with fail
    go_ret2
    exact ⟨hbx1, fun _ => rfl, fun e => by rw [HF.out] at e; cases e⟩
  have HA : Hid (ok = apart [] ms) := by show _ = _; rw [HOK.out]; rfl
  have hm12 : m ≤ 12 := by rw [HM.out]; exact HMS.out rfl
  have q1 : w1.cell? ⟨w.heap.size, 1, none⟩ = some (.slice a2 m c2) := (hbw1.cell (Nat.lt_succ_self _)).trans ((Has.new w 29 _).cell 1)
  have q1' : (w1.alloc (.map #[] 0)).cell? ⟨w.heap.size, 1, none⟩ = some (.slice a2 m c2) := (World.cell?_alloc_lt _ _ _ (by show w.heap.size < _; have := hbw1.size; simp at this; omega)).trans q1
  go_wp2_with fail
  have hb1 : Below (w.heap.size + 1) (w.alloc (.cells #[.slice a1 n c1, .slice a2 m c2] 29)) (w1.alloc (.map #[] 0)) := hbw1.alloc (by simpa using hbw1.size) _
  obtain ⟨mb, hmb⟩ : ∃ q, w1.heap.size = q := ⟨_, rfl⟩
  have hset : SymMap (w1.alloc (.map #[] 0)) mb 0 (.map []) [] := by rw [← hmb]; exact SymMap.new w1
  have hmb1 : w.heap.size + 1 ≤ mb := by have := hbw1.size; simp at this; omega
  rw [hmb]
  have HSET := hidden hset
  have HB1 := hidden hb1
  clear hset hb1 hmb q1 q1' hbw1 hbx1 HOK
  go_loopw [16] (fun i wq => ∃ (k : Nat) (D : DataW Unit), i = .int .i64 k ∧ k ≤ m ∧ Hid (apart [] ms = apart (ms.take k) (ms.drop k)) ∧ Hid (SymMap wq mb k D (opens (ms.take k))) ∧ Below (w.heap.size + 1) (w.alloc (.cells #[.slice a1 n c1, .slice a2 m c2] 29)) wq) (fun i _ => m - (intOf i).toNat)
  case atStart => exact ⟨0, _, rfl, Nat.zero_le _, hidden (by simp), HSET.out, HB1.out⟩
  case round =>
    obtain ⟨k, D, rfl, hk, hall, hset, hbw⟩ := hrel
    clear HSET HB1
    have hb0 : Below w.heap.size w wr := ((Below.refl _ _).alloc (Nat.le_refl _) _).trans (hbw.mono (Nat.le_succ _))
    by_cases hlt : k < m
    · have hi : (k : Int) < (m : Int) := by omega
      have hkl : k < ms.length := by rw [← HM.out]; exact hlt
      obtain ⟨b, off, rfl, hb, p0, p1, p2, p3⟩ := (H2.out.below (hb0.mono HB.out)).at_ hkl
      obtain ⟨z, hz⟩ : ∃ z, ms[k] = z := ⟨_, rfl⟩
      rw [hz] at p0 p1 p2 p3
      have HD : Hid (ms.drop k = z :: ms.drop (k + 1)) := by show _ = _; rw [List.drop_eq_getElem_cons hkl, hz]
      have HT : Hid (ms.take (k + 1) = ms.take k ++ [z]) := by show _ = _; rw [List.take_add_one, List.getElem?_eq_getElem hkl, hz]; rfl
      have hzm : z ∈ ms := by rw [← hz]; exact List.getElem_mem hkl
      have hzs : z.name.size ≤ maxLen := (HS.out z hzm).name
      have hW1 : Below wr.heap.size wr (wr.alloc (.cells #[.string z.name, .int .i64 z.bind, .int .i64 z.loc, .int .i64 z.value] 82)) := (Below.refl _ _).alloc (Nat.le_refl _) _
      have hset2 : Hid (SymMap (wr.alloc (.cells #[.string z.name, .int .i64 z.bind, .int .i64 z.loc, .int .i64 z.value] 82)) mb k D (opens (ms.take k))) := hset.out.kept (grown_below hW1) (by simp)
      have hbw2 := hidden (hbw.trans (hW1.mono (by simpa using hbw.size)))
      have hfin := hidden (hb0.trans (hW1.mono hb0.size))
      clear hz hkl hset hW1
      by_cases hz0 : z.bind = 0
      · have y0 : (z.bind == 0) = true := by simp [hz0]
        have HN2 : Hid (apart [] ms = apart (ms.take (k + 1)) (ms.drop (k + 1))) := by show _ = _; rw [hall.out, HD.out, apart, opens_clash0 _ _ hz0, HT.out]; simp
        have hset3 : Hid (SymMap (wr.alloc (.cells #[.string z.name, .int .i64 z.bind, .int .i64 z.loc, .int .i64 z.value] 82)) mb (k + 1) D (opens (ms.take (k + 1)))) := by
          have e := opens_snoc (ms.take k) z
          rw [if_pos hz0, List.append_nil] at e
          show SymMap _ _ _ _ _
          rw [HT.out, e]; exact hset2.out.more (by omega)
        clear hz0 hset2 hfin
        go_wp2_with fail
        go_roundw
        case rel => exact ⟨k + 1, D, by go_num, by omega, HN2, hset3, hbw2.out⟩
        case measure => simp [intOf]; omega
      have y0 : (z.bind == 0) = false := by simpa using hz0
      obtain ⟨old, hlook⟩ := hset2.out.look hzs
      have HCL : Hid ((ms.take k).all (fun x => !clash x z) = !memS ((opens (ms.take k)).map Sm.name) z.name) := by show _ = _; rw [opens_clash _ _ hz0]
      obtain ⟨bad, hbad⟩ : ∃ q, memS ((opens (ms.take k)).map Sm.name) z.name = q := ⟨_, rfl⟩
      have HBAD := hidden hbad
      rw [hbad] at hlook HCL
      unfold Sm.agg at hlook
      have HZ0 := hidden hz0
      clear hz0 hbad
      rcases bad with _ | _
      · have hno : z.name ∉ (opens (ms.take k)).map Sm.name := fun e => by have := memS_iff.2 e; rw [HBAD.out] at this; cases this
        have HN2 : Hid (apart [] ms = apart (ms.take (k + 1)) (ms.drop (k + 1))) := by show _ = _; rw [hall.out, HD.out, apart, HCL.out, HT.out]; simp
        have hW2 : Below (wr.alloc (.cells #[.string z.name, .int .i64 z.bind, .int .i64 z.loc, .int .i64 z.value] 82)).heap.size (wr.alloc (.cells #[.string z.name, .int .i64 z.bind, .int .i64 z.loc, .int .i64 z.value] 82)) ((wr.alloc (.cells #[.string z.name, .int .i64 z.bind, .int .i64 z.loc, .int .i64 z.value] 82)).alloc (.cells #[.string old.name, .int .i64 old.bind, .int .i64 old.loc, .int .i64 old.value] 82)) := (Below.refl _ _).alloc (Nat.le_refl _) _
        obtain ⟨w3, D3, hput, hset3, hg3⟩ := (hset2.out.kept (grown_below hW2) (by simp)).put (x := z) hzs (show k < maxLen by unfold maxLen; omega) hno
        have hset4 : Hid (SymMap w3 mb (k + 1) D3 (opens (ms.take (k + 1)))) := by
          have e := opens_snoc (ms.take k) z
          rw [if_neg HZ0.out] at e
          show SymMap _ _ _ _ _
          rw [HT.out, e]; exact hset3
        have hbw3 : Hid (Below (w.heap.size + 1) (w.alloc (.cells #[.slice a1 n c1, (.slice (some ⟨b, off, none⟩) m c2)] 29)) w3) := (hbw2.out.trans (hW2.mono (by simpa using hbw2.out.size))).grown hg3 (by have := hbw2.out.size; simp at this ⊢; omega) (by intro q hq; injection hq with hq; omega)
        unfold Sm.agg at hput
        clear hset3 hg3 hW2 hset2 hfin hno
        go_wp2_with fail
        go_roundw
        case rel => exact ⟨k + 1, D3, by go_num, by omega, HN2, hset4, hbw3.out⟩
        case measure => simp [intOf]; omega
      · have HF : Hid (ok = false) := by show _ = _; rw [HA.out, hall.out, HD.out, apart, HCL.out]; simp
        go_wp2_with fail
        go_ret2
        exact ⟨hfin.out.alloc (by have := hfin.out.size; omega) _, fun _ => rfl, fun e => by rw [HF.out] at e; cases e⟩
    · have hi : ¬ (k : Int) < (m : Int) := by omega
      have hkm : k = m := by omega
      have HFIN : Hid (ok = true ∧ SymMap wr mb 12 D (opens ms)) := by
        have hd : ms.drop k = [] := List.drop_eq_nil_of_le (by rw [← HM.out]; omega)
        have ht : ms.take k = ms := List.take_of_length_le (by rw [← HM.out]; omega)
        refine ⟨?_, ?_⟩
        · rw [HA.out, hall.out, hd]; rfl
        · have := hset.out.more (c := 12) (by omega); rwa [ht] at this
      clear hall hset hkm
      go_wp2_with fail
      go_ret2
      exact ⟨hb0, (fun e => by rw [HFIN.out.1] at e; cases e), fun _ => ⟨mb, D, rfl, by omega, by have := HM.out; omega, HFIN.out.2⟩⟩
set_option maxRecDepth 100000 in
set_option maxHeartbeats 2000000 in
theorem objectValid_any (w : World) (B : Nat) (a1 a2 : Option Addr) (c1 c2 n m : Nat) (l : List Sp) (ms : List Sm) (hn : n = l.length) (hm : m = ms.length) (h1 : Sects w B a1 l) (h2 : Syms w B a2 ms) (hB : B ≤ w.heap.size) (hlen : n ≤ 9223372036854775807) (hlem : m ≤ 9223372036854775807)
    (hl : ∀ y ∈ l, y.s.fits) (hs : ∀ x ∈ ms, x.fits) :
    Calls Try.prog 29 #[.agg #[.slice a1 n c1, .slice a2 m c2]] w fun e w' => e = .returned (.bool (objOk (l.map Sp.s) ms)) ∧ Below w.heap.size w w' := by
  have hb0 : Below w.heap.size w (w.alloc (.cells #[.slice a1 n c1, .slice a2 m c2] 29)) := (Below.refl _ _).alloc (Nat.le_refl _) _
  have hC := openSymbols_any (w.alloc (.cells #[.slice a1 n c1, .slice a2 m c2] 29)) B a1 a2 c1 c2 n m l ms hn hm (h1.below (hb0.mono hB)) (h2.below (hb0.mono hB)) (Nat.le_trans hB hb0.size) hlen hlem hl hs
  obtain ⟨ok, hok⟩ : ∃ ok, objOk (l.map Sp.s) ms = ok := ⟨_, rfl⟩
  rw [hok] at hC ⊢
  have HC := hidden hC
  clear hC hok hn hm h1 h2 hl hs hB
  go_enter Try.func29, Try.ntmps29
  go_wp2_with fail
  refine HC.out.mono ?_
  clear HC
  rintro e w1 ⟨hb1, hf, ht⟩
  have hbx := hidden (hb0.trans (hb1.mono hb0.size))
  clear hb0 hb1
  rcases ok with _ | _
  · obtain rfl := hf rfl
    clear hf ht
    go_wp2_with fail
    go_ret
    exact ⟨rfl, hbx.out⟩
  · obtain ⟨b, D, rfl, -, -, -⟩ := ht rfl
    clear hf ht
    go_wp2_with fail
    go_ret
    exact ⟨rfl, hbx.out⟩
theorem wantObjectValid : WantObjectValid := fun w B a1 a2 c1 c2 l ms h1 h2 hB hlen hlem hl hs => objectValid_any w B a1 a2 c1 c2 _ _ l ms rfl rfl h1 h2 hB hlen hlem hl hs

end Go.Proofs.Ytiocchmlmcoieaa

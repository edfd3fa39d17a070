/-
  The program's fixups of a section, one behind the other.
-/
import Derived.Test.YtdbedkjnoppkmaaWant3
import Derived.Test.YtdbedkjnoppkmaaSecI
namespace Go.Proofs.Ytdbedkjnoppkmaa
open Go.RowKit

set_option maxHeartbeats 2000000 in
theorem fixupsValid_any (w : World) (B : Nat) (fs : List Fx) (many : Int) (nb : Nat) (a2 : Option Addr) (c2 : Nat) (h2 : Fixs w B a2 fs) (hB : B ≤ w.heap.size) (hnb : (nb : Int) ≤ 9223372036854775807) (hnf : fs.length ≤ 9223372036854775807) :
    Calls Try.prog 121 #[.slice a2 fs.length c2, .int .i64 nb, .int .i64 many] w fun e w' => e = .returned (.bool (fixsOk nb many 0 fs)) ∧ Below w.heap.size w w' := by
  obtain ⟨nf, hn⟩ : ∃ n, n = fs.length := ⟨_, rfl⟩
  rw [← hn] at hnf ⊢
  have HNF := hidden hn
  have H2 := hidden h2
  clear hn h2
  go_enter Try.func121, Try.ntmps121
  go_wp2_with fail
  go_loopw [7, 13] (fun en i wr => ∃ (k : Nat) (e : Int), i = .int .i64 k ∧ en = .int .i64 e ∧ k ≤ nf ∧ 0 ≤ e ∧ e ≤ nb ∧ Hid (fixsOk nb many 0 fs = fixsOk nb many e (fs.drop k)) ∧ Below w.heap.size w wr) (fun _ i _ => nf - (intOf i).toNat)
  case atStart => exact ⟨0, 0, rfl, rfl, Nat.zero_le _, by omega, by omega, hidden (by simp), Below.refl _ _⟩
  case round =>
    obtain ⟨k, e, rfl, rfl, hk, he0, he1, hfo, hbx⟩ := hrel
    by_cases hlt : k < nf
    · have hi : (k : Int) < (nf : Int) := by omega
      have hkl : k < fs.length := by rw [← HNF.out]; exact hlt
      obtain ⟨b2, o2, rfl, _, p0, p1, p2, p3⟩ := (H2.out.below (hbx.mono hB)).at_ hkl
      obtain ⟨g, hfk⟩ : ∃ g, fs[k] = g := ⟨_, rfl⟩
      rw [hfk] at p0 p1 p2 p3
      have HD : Hid (fs.drop k = g :: fs.drop (k + 1)) := by show _ = _; rw [List.drop_eq_getElem_cons hkl, hfk]
      obtain ⟨pl, gk, to, ad⟩ := g
      simp only at p0 p1 p2 p3
      have HFW := hidden (fun W => fixupWide_below W gk)
      have HG : Hid (fixsOk nb many 0 fs = (fixOk nb many e ⟨pl, gk, to, ad⟩ && fixsOk nb many (pl + wideOf gk) (fs.drop (k + 1)))) := by
        show _ = _; rw [hfo.out, HD.out]; rfl
      obtain ⟨w0, w4⟩ := wideOf_bounds gk
      obtain ⟨wd, hwd⟩ : ∃ x, wideOf gk = x := ⟨_, rfl⟩
      rw [hwd] at HFW HG w0 w4
      have HGO : Hid (fixOk nb many e ⟨pl, gk, to, ad⟩ = (decide (wd ≠ 0) && decide (0 ≤ to) && decide (to < many) && decide (-1000 ≤ ad ∧ ad ≤ 1000) && decide (e ≤ pl ∧ pl ≤ nb - wd))) := by
        show _ = _; unfold fixOk; simp only [hwd]
      clear hfk hkl hfo HD hwd
      go_wp2_with fail
      refine (HFW.out _).mono ?_
      clear HFW
      rintro e3 w3 ⟨rfl, hb3⟩
      have s1 : (wr.alloc (.cells #[.int .i64 pl, .int .i64 gk, .int .i64 to, .int .i64 ad] 94)).heap.size = wr.heap.size + 1 := by simp
      have hb4 : Below wr.heap.size wr w3 := ((Below.refl _ _).alloc (Nat.le_refl _) _).trans (hb3.mono (by rw [s1]; omega))
      have RX : ∀ j, w3.cell? ⟨wr.heap.size, j, none⟩ = (#[.int .i64 pl, .int .i64 gk, .int .i64 to, .int .i64 ad] : Array Value)[j]? := fun j => by
        rw [hb3.cell (by show wr.heap.size < _; rw [s1]; omega)]
        exact (Has.new wr 94 _).cell j
      have r0 : w3.cell? ⟨wr.heap.size, 0, none⟩ = some (.int .i64 pl) := RX 0
      have r2 : w3.cell? ⟨wr.heap.size, 2, none⟩ = some (.int .i64 to) := RX 2
      have r3 : w3.cell? ⟨wr.heap.size, 3, none⟩ = some (.int .i64 ad) := RX 3
      have hbx4 : Below w.heap.size w w3 := hbx.trans (hb4.mono hbx.size)
      clear RX s1 hb3 hb4 p0 p1 p2 p3 hbx
      by_cases z0 : wd = 0
      · have z0' : (wd == 0) = true := by simp [z0]
        have HF : Hid (fixsOk nb many 0 fs = false) := by show _ = _; rw [HG.out, HGO.out]; simp [z0]
        clear HG HGO z0
        go_wp2_with fail
        go_ret
        exact ⟨ret_bool HF.out.symm, hbx4⟩
      have z0' : (wd == 0) = false := by simpa using z0
      by_cases z5 : pl < e
      · have HF : Hid (fixsOk nb many 0 fs = false) := by show _ = _; rw [HG.out, HGO.out]; simp; omega
        clear HG HGO z0
        go_wp2_with fail
        go_ret
        exact ⟨ret_bool HF.out.symm, hbx4⟩
      by_cases z6 : (nb : Int) - wd < pl
      · have HF : Hid (fixsOk nb many 0 fs = false) := by show _ = _; rw [HG.out, HGO.out]; simp; omega
        clear HG HGO z0
        go_wp2_with fail
        go_ret
        exact ⟨ret_bool HF.out.symm, hbx4⟩
      by_cases z1 : to < 0
      · have HF : Hid (fixsOk nb many 0 fs = false) := by show _ = _; rw [HG.out, HGO.out]; simp; omega
        clear HG HGO z0
        go_wp2_with fail
        go_ret
        exact ⟨ret_bool HF.out.symm, hbx4⟩
      by_cases z2 : many ≤ to
      · have HF : Hid (fixsOk nb many 0 fs = false) := by show _ = _; rw [HG.out, HGO.out]; simp; omega
        clear HG HGO z0
        go_wp2_with fail
        go_ret
        exact ⟨ret_bool HF.out.symm, hbx4⟩
      by_cases z3 : ad < -1000
      · have HF : Hid (fixsOk nb many 0 fs = false) := by show _ = _; rw [HG.out, HGO.out]; simp; omega
        clear HG HGO z0
        go_wp2_with fail
        go_ret
        exact ⟨ret_bool HF.out.symm, hbx4⟩
      by_cases z4 : 1000 < ad
      · have HF : Hid (fixsOk nb many 0 fs = false) := by show _ = _; rw [HG.out, HGO.out]; simp; omega
        clear HG HGO z0
        go_wp2_with fail
        go_ret
        exact ⟨ret_bool HF.out.symm, hbx4⟩
      have HN : Hid (fixsOk nb many 0 fs = fixsOk nb many (pl + wd) (fs.drop (k + 1))) := by
        show _ = _
        have : fixOk nb many e ⟨pl, gk, to, ad⟩ = true := by rw [HGO.out]; simp; omega
        rw [HG.out, this, Bool.true_and]
      clear HG HGO z0
      go_wp2_with fail
      go_roundw
      case rel => exact ⟨k + 1, pl + wd, by go_num, by go_num, by omega, by omega, by omega, HN, hbx4⟩
      case measure => simp [intOf]; omega
    · have hi : ¬ (k : Int) < (nf : Int) := by omega
      have HF : Hid (fixsOk nb many 0 fs = true) := by
        show _ = _
        have hd : fs.drop k = [] := List.drop_eq_nil_of_le (by rw [← HNF.out]; omega)
        rw [hfo.out, hd]; simp [fixsOk]
      clear hfo
      go_wp2_with fail
      go_ret
      exact ⟨ret_bool HF.out.symm, hbx⟩

end Go.Proofs.Ytdbedkjnoppkmaa

/-
  spec.SymbolValid. spec.ObjectValid. What is told by valid symbols.
-/
import Derived.Deep.Cut
import Derived.Deep.CutRange
import Derived.IntWalk
import Derived.Test.YtiocchmlmcoieaaSecs
import Derived.Test.YtiocchmlmcoieaaRegionV
/- spec.SymbolValid. -/
namespace Go.Proofs.Ytiocchmlmcoieaa
open Go.RowKit

/-- Is a symbol valid, in an object with these sections? -/
def symOk (m : Sm) (l : List Sx) : Bool :=
  nameOk m.name.data.toList && decide (0 ≤ m.bind ∧ m.bind ≤ 2) &&
  (if m.loc = -1 then decide (m.value = 0) && decide (m.bind ≠ 0) else if m.loc = -2 then decide (0 ≤ m.value ∧ m.value ≤ 60000) else
    decide (0 ≤ m.loc ∧ m.loc < l.length) && decide (0 ≤ m.value ∧ m.value ≤ ((l[m.loc.toNat]?).map Sx.long).getD 0))
set_option maxRecDepth 100000 in
set_option maxHeartbeats 2000000 in
theorem symbolValid'_any (w : World) (B : Nat) (m : Sm) (a : Option Addr) (c n : Nat) (l : List Sp) (hn : n = l.length) (h : Sects w B a l) (hB : B ≤ w.heap.size) (hlen : n ≤ 9223372036854775807) (hname : m.name.size ≤ maxLen) (hl : ∀ y ∈ l, y.s.lens) :
    Calls Try.prog 53 #[m.agg, .slice a n c] w fun e w' => e = .returned (.bool (symOk m (l.map Sp.s))) ∧ Below w.heap.size w w' := by
  obtain ⟨nm, bd, lo, va⟩ := m
  unfold Sm.agg
  simp only at hname ⊢
  have HNV := hidden (fun W => nameValid'_any nm W hname)
  obtain ⟨ok, hok⟩ : ∃ ok, ok = symOk ⟨nm, bd, lo, va⟩ (l.map Sp.s) := ⟨_, rfl⟩
  have HOK : Hid (ok = (nameOk nm.data.toList && decide (0 ≤ bd ∧ bd ≤ 2) &&
      (if lo = -1 then decide (va = 0) && decide (bd ≠ 0) else if lo = -2 then decide (0 ≤ va ∧ va ≤ 60000) else decide (0 ≤ lo ∧ lo < n) && decide (0 ≤ va ∧ va ≤ (((l.map Sp.s)[lo.toNat]?).map Sx.long).getD 0)))) := by
    show _ = _; rw [hok, hn]; unfold symOk; simp only [List.length_map]
  rw [← hok]
  have HN := hidden hn
  have H1 := hidden h
  have HL := hidden hl
  have HLN := hidden hlen
  clear hok hn h hl hname
  rcases hnm : nameOk nm.data.toList with _ | _
  · rw [hnm] at HNV HOK
    have HF : Hid (ok = false) := by show _ = _; rw [HOK.out]; simp
    clear HOK H1 HL HN HLN
    go_enter Try.func53, Try.ntmps53
    go_wp2_with (first | (go_at_call 72; refine (HNV.out _).mono ?_; rintro e w' ⟨rfl, rfl⟩) | (go_at_call 35; (first | (with_reducible refine (l1In_yes _ _ _ (by omega) (by omega) _).mono ?_) | (with_reducible refine (l1In_low _ _ _ (by omega) _).mono ?_) | (with_reducible refine (l1In_high _ _ _ (by omega) _).mono ?_)); rintro e w' ⟨rfl, rfl⟩))
    go_ret
    exact ⟨ret_bool HF.out.symm, (Below.refl _ _).alloc (Nat.le_refl _) _⟩
  rw [hnm] at HNV HOK
  clear hnm
  by_cases b1 : bd < 0
  · have HF : Hid (ok = false) := by show _ = _; rw [HOK.out]; simp; omega
    clear HOK H1 HL HN HLN
    go_enter Try.func53, Try.ntmps53
    go_wp2_with (first | (go_at_call 72; refine (HNV.out _).mono ?_; rintro e w' ⟨rfl, rfl⟩) | (go_at_call 35; (first | (with_reducible refine (l1In_yes _ _ _ (by omega) (by omega) _).mono ?_) | (with_reducible refine (l1In_low _ _ _ (by omega) _).mono ?_) | (with_reducible refine (l1In_high _ _ _ (by omega) _).mono ?_)); rintro e w' ⟨rfl, rfl⟩))
    go_ret
    exact ⟨ret_bool HF.out.symm, (Below.refl _ _).alloc (Nat.le_refl _) _⟩
  by_cases b2 : 2 < bd
  · have HF : Hid (ok = false) := by show _ = _; rw [HOK.out]; simp; omega
    clear HOK H1 HL HN HLN
    go_enter Try.func53, Try.ntmps53
    go_wp2_with (first | (go_at_call 72; refine (HNV.out _).mono ?_; rintro e w' ⟨rfl, rfl⟩) | (go_at_call 35; (first | (with_reducible refine (l1In_yes _ _ _ (by omega) (by omega) _).mono ?_) | (with_reducible refine (l1In_low _ _ _ (by omega) _).mono ?_) | (with_reducible refine (l1In_high _ _ _ (by omega) _).mono ?_)); rintro e w' ⟨rfl, rfl⟩))
    go_ret
    exact ⟨ret_bool HF.out.symm, (Below.refl _ _).alloc (Nat.le_refl _) _⟩
  have hbd : decide (0 ≤ bd ∧ bd ≤ 2) = true := by simp; omega
  rw [hbd] at HOK
  clear hbd
  by_cases l1 : lo = -1
  · have l1' : (lo == -1) = true := by simp [l1]
    rw [if_pos l1] at HOK
    clear l1
    by_cases v0 : va = 0
    · have v0' : (va == 0) = true := by simp [v0]
      by_cases z0 : bd = 0
      · have z0' : (bd == 0) = true := by simp [z0]
        have HF : Hid (ok = false) := by show _ = _; rw [HOK.out]; simp [v0, z0]
        clear HOK H1 HL HN HLN
        go_enter Try.func53, Try.ntmps53
        go_wp2_with (first | (go_at_call 72; refine (HNV.out _).mono ?_; rintro e w' ⟨rfl, rfl⟩) | (go_at_call 35; (first | (with_reducible refine (l1In_yes _ _ _ (by omega) (by omega) _).mono ?_) | (with_reducible refine (l1In_low _ _ _ (by omega) _).mono ?_) | (with_reducible refine (l1In_high _ _ _ (by omega) _).mono ?_)); rintro e w' ⟨rfl, rfl⟩))
        go_ret
        exact ⟨ret_bool HF.out.symm, (Below.refl _ _).alloc (Nat.le_refl _) _⟩
      · have z0' : (bd == 0) = false := by simpa using z0
        have z1' : (bd != 0) = true := by simpa using z0
        have HF : Hid (ok = true) := by show _ = _; rw [HOK.out]; simp [v0, z0]
        clear HOK H1 HL HN HLN
        go_enter Try.func53, Try.ntmps53
        go_wp2_with (first | (go_at_call 72; refine (HNV.out _).mono ?_; rintro e w' ⟨rfl, rfl⟩) | (go_at_call 35; (first | (with_reducible refine (l1In_yes _ _ _ (by omega) (by omega) _).mono ?_) | (with_reducible refine (l1In_low _ _ _ (by omega) _).mono ?_) | (with_reducible refine (l1In_high _ _ _ (by omega) _).mono ?_)); rintro e w' ⟨rfl, rfl⟩))
        go_ret
        exact ⟨ret_bool HF.out.symm, (Below.refl _ _).alloc (Nat.le_refl _) _⟩
    · have v0' : (va == 0) = false := by simpa using v0
      have HF : Hid (ok = false) := by show _ = _; rw [HOK.out]; simp [v0]
      clear HOK H1 HL HN HLN
      go_enter Try.func53, Try.ntmps53
      go_wp2_with (first | (go_at_call 72; refine (HNV.out _).mono ?_; rintro e w' ⟨rfl, rfl⟩) | (go_at_call 35; (first | (with_reducible refine (l1In_yes _ _ _ (by omega) (by omega) _).mono ?_) | (with_reducible refine (l1In_low _ _ _ (by omega) _).mono ?_) | (with_reducible refine (l1In_high _ _ _ (by omega) _).mono ?_)); rintro e w' ⟨rfl, rfl⟩))
      go_ret
      exact ⟨ret_bool HF.out.symm, (Below.refl _ _).alloc (Nat.le_refl _) _⟩
  have l1' : (lo == -1) = false := by simpa using l1
  rw [if_neg l1] at HOK
  by_cases l2 : lo = -2
  · have l2' : (lo == -2) = true := by simp [l2]
    rw [if_pos l2] at HOK
    clear l1 l2
    by_cases v0 : va < 0
    · have HF : Hid (ok = false) := by show _ = _; rw [HOK.out]; simp; omega
      clear HOK H1 HL HN HLN
      go_enter Try.func53, Try.ntmps53
      go_wp2_with (first | (go_at_call 72; refine (HNV.out _).mono ?_; rintro e w' ⟨rfl, rfl⟩) | (go_at_call 35; (first | (with_reducible refine (l1In_yes _ _ _ (by omega) (by omega) _).mono ?_) | (with_reducible refine (l1In_low _ _ _ (by omega) _).mono ?_) | (with_reducible refine (l1In_high _ _ _ (by omega) _).mono ?_)); rintro e w' ⟨rfl, rfl⟩))
      go_ret
      exact ⟨ret_bool HF.out.symm, (Below.refl _ _).alloc (Nat.le_refl _) _⟩
    by_cases v1 : 60000 < va
    · have HF : Hid (ok = false) := by show _ = _; rw [HOK.out]; simp; omega
      clear HOK H1 HL HN HLN
      go_enter Try.func53, Try.ntmps53
      go_wp2_with (first | (go_at_call 72; refine (HNV.out _).mono ?_; rintro e w' ⟨rfl, rfl⟩) | (go_at_call 35; (first | (with_reducible refine (l1In_yes _ _ _ (by omega) (by omega) _).mono ?_) | (with_reducible refine (l1In_low _ _ _ (by omega) _).mono ?_) | (with_reducible refine (l1In_high _ _ _ (by omega) _).mono ?_)); rintro e w' ⟨rfl, rfl⟩))
      go_ret
      exact ⟨ret_bool HF.out.symm, (Below.refl _ _).alloc (Nat.le_refl _) _⟩
    have HF : Hid (ok = true) := by show _ = _; rw [HOK.out]; simp; omega
    clear HOK H1 HL HN HLN
    go_enter Try.func53, Try.ntmps53
    go_wp2_with (first | (go_at_call 72; refine (HNV.out _).mono ?_; rintro e w' ⟨rfl, rfl⟩) | (go_at_call 35; (first | (with_reducible refine (l1In_yes _ _ _ (by omega) (by omega) _).mono ?_) | (with_reducible refine (l1In_low _ _ _ (by omega) _).mono ?_) | (with_reducible refine (l1In_high _ _ _ (by omega) _).mono ?_)); rintro e w' ⟨rfl, rfl⟩))
    go_ret
    exact ⟨ret_bool HF.out.symm, (Below.refl _ _).alloc (Nat.le_refl _) _⟩
  have l2' : (lo == -2) = false := by simpa using l2
  rw [if_neg l2] at HOK
  clear l1 l2
  have HQ2 : Hid (∀ W, Below (w.heap.size + 1) (w.alloc (.cells #[.string nm, .int .i64 bd, .int .i64 lo, .int .i64 va] 82)) W → W.cell? ⟨w.heap.size, 2, none⟩ = some (.int .i64 lo)) := fun W hW => (hW.cell (Nat.lt_succ_self _)).trans ((Has.new w 82 _).cell 2)
  have HQ3 : Hid (∀ W, Below (w.heap.size + 1) (w.alloc (.cells #[.string nm, .int .i64 bd, .int .i64 lo, .int .i64 va] 82)) W → W.cell? ⟨w.heap.size, 3, none⟩ = some (.int .i64 va)) := fun W hW => (hW.cell (Nat.lt_succ_self _)).trans ((Has.new w 82 _).cell 3)
  have hsub : IntKind.i64.wrap ((n : Int) - 1) = (n : Int) - 1 := IntWalk.i64_in _ (by omega)
  by_cases k0 : lo < 0
  · have HF : Hid (ok = false) := by show _ = _; rw [HOK.out]; simp; omega
    clear HOK H1 HL HN
    go_enter Try.func53, Try.ntmps53
    go_upto_region 7 with (first | (go_at_call 72; refine (HNV.out _).mono ?_; rintro e w' ⟨rfl, rfl⟩) | (go_at_call 35; (first | (with_reducible refine (l1In_yes _ _ _ (by omega) (by omega) _).mono ?_) | (with_reducible refine (l1In_low _ _ _ (by omega) _).mono ?_) | (with_reducible refine (l1In_high _ _ _ (by omega) _).mono ?_)); rintro e w' ⟨rfl, rfl⟩))
    refine wp_region_seq (by kernel_rfl) (fun W => Below (w.heap.size + 1) (w.alloc (.cells #[.string nm, .int .i64 bd, .int .i64 lo, .int .i64 va] 82)) W) (by kernel_rfl) (Below.refl _ _).drew ?_
    refine SeqV.step (.pointer (some ⟨w.heap.size, 2, none⟩)) (by rfl) (fun W hW => ?_) ?_
    · unfold Oper.wp
      simp [go_sem]
      try exact hW
    simp only [Act.put, List.setIfInBounds_toArray, List.set_cons_succ, List.set_cons_zero]
    refine SeqV.step (.int .i64 lo) (by rfl) (fun W hW => ?_) ?_
    · have q2 := HQ2.out W hW; unfold Oper.wp
      simp [go_sem, *]
      try exact hW
    simp only [Act.put, List.setIfInBounds_toArray, List.set_cons_succ, List.set_cons_zero]
    refine SeqV.step (.slice a n c) (by rfl) (fun W hW => ?_) ?_
    · unfold Oper.wp
      simp [go_sem]
      try exact hW
    simp only [Act.put, List.setIfInBounds_toArray, List.set_cons_succ, List.set_cons_zero]
    refine SeqV.step (.int .i64 n) (by rfl) (fun W hW => ?_) ?_
    · unfold Oper.wp
      simp [go_sem]
      try exact hW
    simp only [Act.put, List.setIfInBounds_toArray, List.set_cons_succ, List.set_cons_zero]
    refine SeqV.step (.int .i64 ((n : Int) - 1)) (by rfl) (fun W hW => ?_) ?_
    · have q := hsub; unfold Oper.wp
      simp [go_sem, *]
      try exact hW
    simp only [Act.put, List.setIfInBounds_toArray, List.set_cons_succ, List.set_cons_zero]
    refine SeqV.step (.bool false) (by rfl) (fun W hW => ?_) ?_
    · unfold Oper.wp
      simp [go_sem]
      refine (l1In_low _ _ _ (by omega) _).mono ?_; rintro e w' ⟨rfl, rfl⟩; exact ⟨rfl, hW⟩
    simp only [Act.put, List.setIfInBounds_toArray, List.set_cons_succ, List.set_cons_zero]
    refine SeqV.step (.bool false) (by rfl) (fun W hW => ?_) ?_
    · unfold Oper.wp
      simp [go_sem]
      try exact hW
    simp only [Act.put, List.setIfInBounds_toArray, List.set_cons_succ, List.set_cons_zero]
    refine SeqV.skip (by rfl) ?_
    simp only [Act.put, List.setIfInBounds_toArray, List.set_cons_succ, List.set_cons_zero]
    refine SeqV.skip (by rfl) ?_
    simp only [Act.put, List.setIfInBounds_toArray, List.set_cons_succ, List.set_cons_zero]
    refine SeqV.skip (by rfl) ?_
    simp only [Act.put, List.setIfInBounds_toArray, List.set_cons_succ, List.set_cons_zero]
    refine SeqV.skip (by rfl) ?_
    simp only [Act.put, List.setIfInBounds_toArray, List.set_cons_succ, List.set_cons_zero]
    refine SeqV.skip (by rfl) ?_
    simp only [Act.put, List.setIfInBounds_toArray, List.set_cons_succ, List.set_cons_zero]
    refine SeqV.skip (by rfl) ?_
    simp only [Act.put, List.setIfInBounds_toArray, List.set_cons_succ, List.set_cons_zero]
    refine SeqV.skip (by rfl) ?_
    simp only [Act.put, List.setIfInBounds_toArray, List.set_cons_succ, List.set_cons_zero]
    refine SeqV.skip (by rfl) ?_
    simp only [Act.put, List.setIfInBounds_toArray, List.set_cons_succ, List.set_cons_zero]
    refine SeqV.skip (by rfl) ?_
    simp only [Act.put, List.setIfInBounds_toArray, List.set_cons_succ, List.set_cons_zero]
    refine SeqV.step (.bool false) (by rfl) (fun W hW => ?_) ?_
    · unfold Oper.wp
      simp [go_sem]
      try exact hW
    simp only [Act.put, List.setIfInBounds_toArray, List.set_cons_succ, List.set_cons_zero]
    refine SeqV.step (.bool false) (by rfl) (fun W hW => ?_) ?_
    · unfold Oper.wp
      simp [go_sem]
      try exact hW
    simp only [Act.put, List.setIfInBounds_toArray, List.set_cons_succ, List.set_cons_zero]
    intro W hW
    go_wp2_with fail
    go_ret
    exact ⟨ret_bool HF.out.symm, ((Below.refl _ _).alloc (Nat.le_refl _) _).trans (hW.mono (by omega))⟩
  by_cases k1 : (n : Int) - 1 < lo
  · have HF : Hid (ok = false) := by show _ = _; rw [HOK.out]; simp; omega
    clear HOK H1 HL HN
    go_enter Try.func53, Try.ntmps53
    go_upto_region 7 with (first | (go_at_call 72; refine (HNV.out _).mono ?_; rintro e w' ⟨rfl, rfl⟩) | (go_at_call 35; (first | (with_reducible refine (l1In_yes _ _ _ (by omega) (by omega) _).mono ?_) | (with_reducible refine (l1In_low _ _ _ (by omega) _).mono ?_) | (with_reducible refine (l1In_high _ _ _ (by omega) _).mono ?_)); rintro e w' ⟨rfl, rfl⟩))
    refine wp_region_seq (by kernel_rfl) (fun W => Below (w.heap.size + 1) (w.alloc (.cells #[.string nm, .int .i64 bd, .int .i64 lo, .int .i64 va] 82)) W) (by kernel_rfl) (Below.refl _ _).drew ?_
    refine SeqV.step (.pointer (some ⟨w.heap.size, 2, none⟩)) (by rfl) (fun W hW => ?_) ?_
    · unfold Oper.wp
      simp [go_sem]
      try exact hW
    simp only [Act.put, List.setIfInBounds_toArray, List.set_cons_succ, List.set_cons_zero]
    refine SeqV.step (.int .i64 lo) (by rfl) (fun W hW => ?_) ?_
    · have q2 := HQ2.out W hW; unfold Oper.wp
      simp [go_sem, *]
      try exact hW
    simp only [Act.put, List.setIfInBounds_toArray, List.set_cons_succ, List.set_cons_zero]
    refine SeqV.step (.slice a n c) (by rfl) (fun W hW => ?_) ?_
    · unfold Oper.wp
      simp [go_sem]
      try exact hW
    simp only [Act.put, List.setIfInBounds_toArray, List.set_cons_succ, List.set_cons_zero]
    refine SeqV.step (.int .i64 n) (by rfl) (fun W hW => ?_) ?_
    · unfold Oper.wp
      simp [go_sem]
      try exact hW
    simp only [Act.put, List.setIfInBounds_toArray, List.set_cons_succ, List.set_cons_zero]
    refine SeqV.step (.int .i64 ((n : Int) - 1)) (by rfl) (fun W hW => ?_) ?_
    · have q := hsub; unfold Oper.wp
      simp [go_sem, *]
      try exact hW
    simp only [Act.put, List.setIfInBounds_toArray, List.set_cons_succ, List.set_cons_zero]
    refine SeqV.step (.bool false) (by rfl) (fun W hW => ?_) ?_
    · unfold Oper.wp
      simp [go_sem]
      refine (l1In_high _ _ _ (by omega) _).mono ?_; rintro e w' ⟨rfl, rfl⟩; exact ⟨rfl, hW⟩
    simp only [Act.put, List.setIfInBounds_toArray, List.set_cons_succ, List.set_cons_zero]
    refine SeqV.step (.bool false) (by rfl) (fun W hW => ?_) ?_
    · unfold Oper.wp
      simp [go_sem]
      try exact hW
    simp only [Act.put, List.setIfInBounds_toArray, List.set_cons_succ, List.set_cons_zero]
    refine SeqV.skip (by rfl) ?_
    simp only [Act.put, List.setIfInBounds_toArray, List.set_cons_succ, List.set_cons_zero]
    refine SeqV.skip (by rfl) ?_
    simp only [Act.put, List.setIfInBounds_toArray, List.set_cons_succ, List.set_cons_zero]
    refine SeqV.skip (by rfl) ?_
    simp only [Act.put, List.setIfInBounds_toArray, List.set_cons_succ, List.set_cons_zero]
    refine SeqV.skip (by rfl) ?_
    simp only [Act.put, List.setIfInBounds_toArray, List.set_cons_succ, List.set_cons_zero]
    refine SeqV.skip (by rfl) ?_
    simp only [Act.put, List.setIfInBounds_toArray, List.set_cons_succ, List.set_cons_zero]
    refine SeqV.skip (by rfl) ?_
    simp only [Act.put, List.setIfInBounds_toArray, List.set_cons_succ, List.set_cons_zero]
    refine SeqV.skip (by rfl) ?_
    simp only [Act.put, List.setIfInBounds_toArray, List.set_cons_succ, List.set_cons_zero]
    refine SeqV.skip (by rfl) ?_
    simp only [Act.put, List.setIfInBounds_toArray, List.set_cons_succ, List.set_cons_zero]
    refine SeqV.skip (by rfl) ?_
    simp only [Act.put, List.setIfInBounds_toArray, List.set_cons_succ, List.set_cons_zero]
    refine SeqV.step (.bool false) (by rfl) (fun W hW => ?_) ?_
    · unfold Oper.wp
      simp [go_sem]
      try exact hW
    simp only [Act.put, List.setIfInBounds_toArray, List.set_cons_succ, List.set_cons_zero]
    refine SeqV.step (.bool false) (by rfl) (fun W hW => ?_) ?_
    · unfold Oper.wp
      simp [go_sem]
      try exact hW
    simp only [Act.put, List.setIfInBounds_toArray, List.set_cons_succ, List.set_cons_zero]
    intro W hW
    go_wp2_with fail
    go_ret
    exact ⟨ret_bool HF.out.symm, ((Below.refl _ _).alloc (Nat.le_refl _) _).trans (hW.mono (by omega))⟩
  obtain ⟨k, rfl⟩ : ∃ k : Nat, lo = k := ⟨lo.toNat, by omega⟩
  have hkl : k < l.length := by rw [← HN.out]; omega
  obtain ⟨b, off, rfl, hb, hp⟩ := H1.out.at_ hkl
  obtain ⟨y, hy⟩ : ∃ y, l[k] = y := ⟨_, rfl⟩
  rw [hy] at hp
  have HP : Hid (∀ W, Below (w.heap.size + 1) (w.alloc (.cells #[.string nm, .int .i64 bd, .int .i64 (k : Int), .int .i64 va] 82)) W → SecAt W b (off + k * 6) y) := fun W hW => hp.keep fun i => by
    rw [hW.cell (by show b < _; omega)]
    exact World.cell?_alloc_lt _ _ _ (by show b < w.heap.size; omega)
  have hyl := HL.out y (by rw [← hy]; exact List.getElem_mem hkl)
  have HSZ := hidden (fun W => sectionSize'_any W y.s y.a1 y.c1 y.a2 y.c2 hyl.2.1)
  have hmem : (l.map Sp.s)[((k : Nat) : Int).toNat]? = some y.s := by
    rw [Int.toNat_natCast, List.getElem?_map, List.getElem?_eq_getElem hkl, hy]; rfl
  rw [hmem] at HOK
  have hki : (k : Int) < (n : Int) := by omega
  obtain ⟨lg, hlg⟩ : ∃ x, y.s.long = x := ⟨_, rfl⟩
  have HG : Hid (ok = decide (0 ≤ va ∧ va ≤ lg)) := by
    show _ = _
    have e : decide (0 ≤ (k : Int) ∧ (k : Int) < n) = true := by simp; omega
    rw [HOK.out, e, ← hlg]; simp
  rw [hlg] at HSZ
  clear HOK H1 HL HN hkl hp hy hyl hmem hlg hb
  by_cases v0 : va < 0
  · have HF : Hid (ok = false) := by show _ = _; rw [HG.out]; simp; omega
    clear HG
    go_enter Try.func53, Try.ntmps53
    go_upto_region 7 with (first | (go_at_call 72; refine (HNV.out _).mono ?_; rintro e w' ⟨rfl, rfl⟩) | (go_at_call 35; (first | (with_reducible refine (l1In_yes _ _ _ (by omega) (by omega) _).mono ?_) | (with_reducible refine (l1In_low _ _ _ (by omega) _).mono ?_) | (with_reducible refine (l1In_high _ _ _ (by omega) _).mono ?_)); rintro e w' ⟨rfl, rfl⟩))
    refine wp_region_seq (by kernel_rfl) (fun W => Below (w.heap.size + 1) (w.alloc (.cells #[.string nm, .int .i64 bd, .int .i64 (k : Int), .int .i64 va] 82)) W) (by kernel_rfl) (Below.refl _ _).drew ?_
    refine SeqV.step (.pointer (some ⟨w.heap.size, 2, none⟩)) (by rfl) (fun W hW => ?_) ?_
    · unfold Oper.wp
      simp [go_sem]
      try exact hW
    simp only [Act.put, List.setIfInBounds_toArray, List.set_cons_succ, List.set_cons_zero]
    refine SeqV.step (.int .i64 (k : Int)) (by rfl) (fun W hW => ?_) ?_
    · have q2 := HQ2.out W hW; unfold Oper.wp
      simp [go_sem, *]
      try exact hW
    simp only [Act.put, List.setIfInBounds_toArray, List.set_cons_succ, List.set_cons_zero]
    refine SeqV.step (.slice (some ⟨b, off, none⟩) n c) (by rfl) (fun W hW => ?_) ?_
    · unfold Oper.wp
      simp [go_sem]
      try exact hW
    simp only [Act.put, List.setIfInBounds_toArray, List.set_cons_succ, List.set_cons_zero]
    refine SeqV.step (.int .i64 n) (by rfl) (fun W hW => ?_) ?_
    · unfold Oper.wp
      simp [go_sem]
      try exact hW
    simp only [Act.put, List.setIfInBounds_toArray, List.set_cons_succ, List.set_cons_zero]
    refine SeqV.step (.int .i64 ((n : Int) - 1)) (by rfl) (fun W hW => ?_) ?_
    · have q := hsub; unfold Oper.wp
      simp [go_sem, *]
      try exact hW
    simp only [Act.put, List.setIfInBounds_toArray, List.set_cons_succ, List.set_cons_zero]
    refine SeqV.step (.bool true) (by rfl) (fun W hW => ?_) ?_
    · unfold Oper.wp
      simp [go_sem]
      refine (l1In_yes _ _ _ (by omega) (by omega) _).mono ?_; rintro e w' ⟨rfl, rfl⟩; exact ⟨rfl, hW⟩
    simp only [Act.put, List.setIfInBounds_toArray, List.set_cons_succ, List.set_cons_zero]
    refine SeqV.step (.bool true) (by rfl) (fun W hW => ?_) ?_
    · unfold Oper.wp
      simp [go_sem]
      try exact hW
    simp only [Act.put, List.setIfInBounds_toArray, List.set_cons_succ, List.set_cons_zero]
    refine SeqV.step (.pointer (some ⟨w.heap.size, 3, none⟩)) (by rfl) (fun W hW => ?_) ?_
    · unfold Oper.wp
      simp [go_sem]
      try exact hW
    simp only [Act.put, List.setIfInBounds_toArray, List.set_cons_succ, List.set_cons_zero]
    refine SeqV.step (.int .i64 va) (by rfl) (fun W hW => ?_) ?_
    · have q3 := HQ3.out W hW; unfold Oper.wp
      simp [go_sem, *]
      try exact hW
    simp only [Act.put, List.setIfInBounds_toArray, List.set_cons_succ, List.set_cons_zero]
    refine SeqV.step (.slice (some ⟨b, off, none⟩) n c) (by rfl) (fun W hW => ?_) ?_
    · unfold Oper.wp
      simp [go_sem]
      try exact hW
    simp only [Act.put, List.setIfInBounds_toArray, List.set_cons_succ, List.set_cons_zero]
    refine SeqV.step (.pointer (some ⟨w.heap.size, 2, none⟩)) (by rfl) (fun W hW => ?_) ?_
    · unfold Oper.wp
      simp [go_sem]
      try exact hW
    simp only [Act.put, List.setIfInBounds_toArray, List.set_cons_succ, List.set_cons_zero]
    refine SeqV.step (.int .i64 (k : Int)) (by rfl) (fun W hW => ?_) ?_
    · have q2 := HQ2.out W hW; unfold Oper.wp
      simp [go_sem, *]
      try exact hW
    simp only [Act.put, List.setIfInBounds_toArray, List.set_cons_succ, List.set_cons_zero]
    refine SeqV.step (.pointer (some ⟨b, off + k * 6, none⟩)) (by rfl) (fun W hW => ?_) ?_
    · have q := hki; unfold Oper.wp
      simp [go_sem, *]
      try exact hW
    simp only [Act.put, List.setIfInBounds_toArray, List.set_cons_succ, List.set_cons_zero]
    refine SeqV.step (.agg #[.string y.s.name, .int .i64 y.s.kind, .int .i64 y.s.align, .slice y.a1 y.s.bytes.length y.c1, .int .i64 y.s.size, .slice y.a2 y.s.fixs.length y.c2]) (by rfl) (fun W hW => ?_) ?_
    · obtain ⟨p0, p1, p2, p3, p4, p5⟩ := HP.out W hW; unfold Oper.wp
      simp [go_sem, *]
      try exact hW
    simp only [Act.put, List.setIfInBounds_toArray, List.set_cons_succ, List.set_cons_zero]
    refine SeqV.step (.int .i64 lg) (by rfl) (fun W hW => ?_) ?_
    · unfold Oper.wp
      simp [go_sem]
      refine (HSZ.out W).mono ?_; rintro e w' ⟨rfl, hb⟩; exact ⟨rfl, hW.trans (hb.mono (by have := hW.size; simpa using this))⟩
    simp only [Act.put, List.setIfInBounds_toArray, List.set_cons_succ, List.set_cons_zero]
    refine SeqV.step (.bool false) (by rfl) (fun W hW => ?_) ?_
    · unfold Oper.wp
      simp [go_sem]
      refine (l1In_low _ _ _ (by omega) _).mono ?_; rintro e w' ⟨rfl, rfl⟩; exact ⟨rfl, hW⟩
    simp only [Act.put, List.setIfInBounds_toArray, List.set_cons_succ, List.set_cons_zero]
    refine SeqV.step (.bool false) (by rfl) (fun W hW => ?_) ?_
    · unfold Oper.wp
      simp [go_sem]
      try exact hW
    simp only [Act.put, List.setIfInBounds_toArray, List.set_cons_succ, List.set_cons_zero]
    refine SeqV.step (.bool false) (by rfl) (fun W hW => ?_) ?_
    · unfold Oper.wp
      simp [go_sem]
      try exact hW
    simp only [Act.put, List.setIfInBounds_toArray, List.set_cons_succ, List.set_cons_zero]
    intro W hW
    go_wp2_with fail
    go_ret
    exact ⟨ret_bool HF.out.symm, ((Below.refl _ _).alloc (Nat.le_refl _) _).trans (hW.mono (by omega))⟩
  by_cases v1 : lg < va
  · have HF : Hid (ok = false) := by show _ = _; rw [HG.out]; simp; omega
    clear HG
    go_enter Try.func53, Try.ntmps53
    go_upto_region 7 with (first | (go_at_call 72; refine (HNV.out _).mono ?_; rintro e w' ⟨rfl, rfl⟩) | (go_at_call 35; (first | (with_reducible refine (l1In_yes _ _ _ (by omega) (by omega) _).mono ?_) | (with_reducible refine (l1In_low _ _ _ (by omega) _).mono ?_) | (with_reducible refine (l1In_high _ _ _ (by omega) _).mono ?_)); rintro e w' ⟨rfl, rfl⟩))
    refine wp_region_seq (by kernel_rfl) (fun W => Below (w.heap.size + 1) (w.alloc (.cells #[.string nm, .int .i64 bd, .int .i64 (k : Int), .int .i64 va] 82)) W) (by kernel_rfl) (Below.refl _ _).drew ?_
    refine SeqV.step (.pointer (some ⟨w.heap.size, 2, none⟩)) (by rfl) (fun W hW => ?_) ?_
    · unfold Oper.wp
      simp [go_sem]
      try exact hW
    simp only [Act.put, List.setIfInBounds_toArray, List.set_cons_succ, List.set_cons_zero]
    refine SeqV.step (.int .i64 (k : Int)) (by rfl) (fun W hW => ?_) ?_
    · have q2 := HQ2.out W hW; unfold Oper.wp
      simp [go_sem, *]
      try exact hW
    simp only [Act.put, List.setIfInBounds_toArray, List.set_cons_succ, List.set_cons_zero]
    refine SeqV.step (.slice (some ⟨b, off, none⟩) n c) (by rfl) (fun W hW => ?_) ?_
    · unfold Oper.wp
      simp [go_sem]
      try exact hW
    simp only [Act.put, List.setIfInBounds_toArray, List.set_cons_succ, List.set_cons_zero]
    refine SeqV.step (.int .i64 n) (by rfl) (fun W hW => ?_) ?_
    · unfold Oper.wp
      simp [go_sem]
      try exact hW
    simp only [Act.put, List.setIfInBounds_toArray, List.set_cons_succ, List.set_cons_zero]
    refine SeqV.step (.int .i64 ((n : Int) - 1)) (by rfl) (fun W hW => ?_) ?_
    · have q := hsub; unfold Oper.wp
      simp [go_sem, *]
      try exact hW
    simp only [Act.put, List.setIfInBounds_toArray, List.set_cons_succ, List.set_cons_zero]
    refine SeqV.step (.bool true) (by rfl) (fun W hW => ?_) ?_
    · unfold Oper.wp
      simp [go_sem]
      refine (l1In_yes _ _ _ (by omega) (by omega) _).mono ?_; rintro e w' ⟨rfl, rfl⟩; exact ⟨rfl, hW⟩
    simp only [Act.put, List.setIfInBounds_toArray, List.set_cons_succ, List.set_cons_zero]
    refine SeqV.step (.bool true) (by rfl) (fun W hW => ?_) ?_
    · unfold Oper.wp
      simp [go_sem]
      try exact hW
    simp only [Act.put, List.setIfInBounds_toArray, List.set_cons_succ, List.set_cons_zero]
    refine SeqV.step (.pointer (some ⟨w.heap.size, 3, none⟩)) (by rfl) (fun W hW => ?_) ?_
    · unfold Oper.wp
      simp [go_sem]
      try exact hW
    simp only [Act.put, List.setIfInBounds_toArray, List.set_cons_succ, List.set_cons_zero]
    refine SeqV.step (.int .i64 va) (by rfl) (fun W hW => ?_) ?_
    · have q3 := HQ3.out W hW; unfold Oper.wp
      simp [go_sem, *]
      try exact hW
    simp only [Act.put, List.setIfInBounds_toArray, List.set_cons_succ, List.set_cons_zero]
    refine SeqV.step (.slice (some ⟨b, off, none⟩) n c) (by rfl) (fun W hW => ?_) ?_
    · unfold Oper.wp
      simp [go_sem]
      try exact hW
    simp only [Act.put, List.setIfInBounds_toArray, List.set_cons_succ, List.set_cons_zero]
    refine SeqV.step (.pointer (some ⟨w.heap.size, 2, none⟩)) (by rfl) (fun W hW => ?_) ?_
    · unfold Oper.wp
      simp [go_sem]
      try exact hW
    simp only [Act.put, List.setIfInBounds_toArray, List.set_cons_succ, List.set_cons_zero]
    refine SeqV.step (.int .i64 (k : Int)) (by rfl) (fun W hW => ?_) ?_
    · have q2 := HQ2.out W hW; unfold Oper.wp
      simp [go_sem, *]
      try exact hW
    simp only [Act.put, List.setIfInBounds_toArray, List.set_cons_succ, List.set_cons_zero]
    refine SeqV.step (.pointer (some ⟨b, off + k * 6, none⟩)) (by rfl) (fun W hW => ?_) ?_
    · have q := hki; unfold Oper.wp
      simp [go_sem, *]
      try exact hW
    simp only [Act.put, List.setIfInBounds_toArray, List.set_cons_succ, List.set_cons_zero]
    refine SeqV.step (.agg #[.string y.s.name, .int .i64 y.s.kind, .int .i64 y.s.align, .slice y.a1 y.s.bytes.length y.c1, .int .i64 y.s.size, .slice y.a2 y.s.fixs.length y.c2]) (by rfl) (fun W hW => ?_) ?_
    · obtain ⟨p0, p1, p2, p3, p4, p5⟩ := HP.out W hW; unfold Oper.wp
      simp [go_sem, *]
      try exact hW
    simp only [Act.put, List.setIfInBounds_toArray, List.set_cons_succ, List.set_cons_zero]
    refine SeqV.step (.int .i64 lg) (by rfl) (fun W hW => ?_) ?_
    · unfold Oper.wp
      simp [go_sem]
      refine (HSZ.out W).mono ?_; rintro e w' ⟨rfl, hb⟩; exact ⟨rfl, hW.trans (hb.mono (by have := hW.size; simpa using this))⟩
    simp only [Act.put, List.setIfInBounds_toArray, List.set_cons_succ, List.set_cons_zero]
    refine SeqV.step (.bool false) (by rfl) (fun W hW => ?_) ?_
    · unfold Oper.wp
      simp [go_sem]
      refine (l1In_high _ _ _ (by omega) _).mono ?_; rintro e w' ⟨rfl, rfl⟩; exact ⟨rfl, hW⟩
    simp only [Act.put, List.setIfInBounds_toArray, List.set_cons_succ, List.set_cons_zero]
    refine SeqV.step (.bool false) (by rfl) (fun W hW => ?_) ?_
    · unfold Oper.wp
      simp [go_sem]
      try exact hW
    simp only [Act.put, List.setIfInBounds_toArray, List.set_cons_succ, List.set_cons_zero]
    refine SeqV.step (.bool false) (by rfl) (fun W hW => ?_) ?_
    · unfold Oper.wp
      simp [go_sem]
      try exact hW
    simp only [Act.put, List.setIfInBounds_toArray, List.set_cons_succ, List.set_cons_zero]
    intro W hW
    go_wp2_with fail
    go_ret
    exact ⟨ret_bool HF.out.symm, ((Below.refl _ _).alloc (Nat.le_refl _) _).trans (hW.mono (by omega))⟩
  have HF : Hid (ok = true) := by show _ = _; rw [HG.out]; simp; omega
  clear HG
  go_enter Try.func53, Try.ntmps53
  go_upto_region 7 with (first | (go_at_call 72; refine (HNV.out _).mono ?_; rintro e w' ⟨rfl, rfl⟩) | (go_at_call 35; (first | (with_reducible refine (l1In_yes _ _ _ (by omega) (by omega) _).mono ?_) | (with_reducible refine (l1In_low _ _ _ (by omega) _).mono ?_) | (with_reducible refine (l1In_high _ _ _ (by omega) _).mono ?_)); rintro e w' ⟨rfl, rfl⟩))
  refine wp_region_seq (by kernel_rfl) (fun W => Below (w.heap.size + 1) (w.alloc (.cells #[.string nm, .int .i64 bd, .int .i64 (k : Int), .int .i64 va] 82)) W) (by kernel_rfl) (Below.refl _ _).drew ?_
  refine SeqV.step (.pointer (some ⟨w.heap.size, 2, none⟩)) (by rfl) (fun W hW => ?_) ?_
  · unfold Oper.wp
    simp [go_sem]
    try exact hW
  simp only [Act.put, List.setIfInBounds_toArray, List.set_cons_succ, List.set_cons_zero]
  refine SeqV.step (.int .i64 (k : Int)) (by rfl) (fun W hW => ?_) ?_
  · have q2 := HQ2.out W hW; unfold Oper.wp
    simp [go_sem, *]
    try exact hW
  simp only [Act.put, List.setIfInBounds_toArray, List.set_cons_succ, List.set_cons_zero]
  refine SeqV.step (.slice (some ⟨b, off, none⟩) n c) (by rfl) (fun W hW => ?_) ?_
  · unfold Oper.wp
    simp [go_sem]
    try exact hW
  simp only [Act.put, List.setIfInBounds_toArray, List.set_cons_succ, List.set_cons_zero]
  refine SeqV.step (.int .i64 n) (by rfl) (fun W hW => ?_) ?_
  · unfold Oper.wp
    simp [go_sem]
    try exact hW
  simp only [Act.put, List.setIfInBounds_toArray, List.set_cons_succ, List.set_cons_zero]
  refine SeqV.step (.int .i64 ((n : Int) - 1)) (by rfl) (fun W hW => ?_) ?_
  · have q := hsub; unfold Oper.wp
    simp [go_sem, *]
    try exact hW
  simp only [Act.put, List.setIfInBounds_toArray, List.set_cons_succ, List.set_cons_zero]
  refine SeqV.step (.bool true) (by rfl) (fun W hW => ?_) ?_
  · unfold Oper.wp
    simp [go_sem]
    refine (l1In_yes _ _ _ (by omega) (by omega) _).mono ?_; rintro e w' ⟨rfl, rfl⟩; exact ⟨rfl, hW⟩
  simp only [Act.put, List.setIfInBounds_toArray, List.set_cons_succ, List.set_cons_zero]
  refine SeqV.step (.bool true) (by rfl) (fun W hW => ?_) ?_
  · unfold Oper.wp
    simp [go_sem]
    try exact hW
  simp only [Act.put, List.setIfInBounds_toArray, List.set_cons_succ, List.set_cons_zero]
  refine SeqV.step (.pointer (some ⟨w.heap.size, 3, none⟩)) (by rfl) (fun W hW => ?_) ?_
  · unfold Oper.wp
    simp [go_sem]
    try exact hW
  simp only [Act.put, List.setIfInBounds_toArray, List.set_cons_succ, List.set_cons_zero]
  refine SeqV.step (.int .i64 va) (by rfl) (fun W hW => ?_) ?_
  · have q3 := HQ3.out W hW; unfold Oper.wp
    simp [go_sem, *]
    try exact hW
  simp only [Act.put, List.setIfInBounds_toArray, List.set_cons_succ, List.set_cons_zero]
  refine SeqV.step (.slice (some ⟨b, off, none⟩) n c) (by rfl) (fun W hW => ?_) ?_
  · unfold Oper.wp
    simp [go_sem]
    try exact hW
  simp only [Act.put, List.setIfInBounds_toArray, List.set_cons_succ, List.set_cons_zero]
  refine SeqV.step (.pointer (some ⟨w.heap.size, 2, none⟩)) (by rfl) (fun W hW => ?_) ?_
  · unfold Oper.wp
    simp [go_sem]
    try exact hW
  simp only [Act.put, List.setIfInBounds_toArray, List.set_cons_succ, List.set_cons_zero]
  refine SeqV.step (.int .i64 (k : Int)) (by rfl) (fun W hW => ?_) ?_
  · have q2 := HQ2.out W hW; unfold Oper.wp
    simp [go_sem, *]
    try exact hW
  simp only [Act.put, List.setIfInBounds_toArray, List.set_cons_succ, List.set_cons_zero]
  refine SeqV.step (.pointer (some ⟨b, off + k * 6, none⟩)) (by rfl) (fun W hW => ?_) ?_
  · have q := hki; unfold Oper.wp
    simp [go_sem, *]
    try exact hW
  simp only [Act.put, List.setIfInBounds_toArray, List.set_cons_succ, List.set_cons_zero]
  refine SeqV.step (.agg #[.string y.s.name, .int .i64 y.s.kind, .int .i64 y.s.align, .slice y.a1 y.s.bytes.length y.c1, .int .i64 y.s.size, .slice y.a2 y.s.fixs.length y.c2]) (by rfl) (fun W hW => ?_) ?_
  · obtain ⟨p0, p1, p2, p3, p4, p5⟩ := HP.out W hW; unfold Oper.wp
    simp [go_sem, *]
    try exact hW
  simp only [Act.put, List.setIfInBounds_toArray, List.set_cons_succ, List.set_cons_zero]
  refine SeqV.step (.int .i64 lg) (by rfl) (fun W hW => ?_) ?_
  · unfold Oper.wp
    simp [go_sem]
    refine (HSZ.out W).mono ?_; rintro e w' ⟨rfl, hb⟩; exact ⟨rfl, hW.trans (hb.mono (by have := hW.size; simpa using this))⟩
  simp only [Act.put, List.setIfInBounds_toArray, List.set_cons_succ, List.set_cons_zero]
  refine SeqV.step (.bool true) (by rfl) (fun W hW => ?_) ?_
  · unfold Oper.wp
    simp [go_sem]
    refine (l1In_yes _ _ _ (by omega) (by omega) _).mono ?_; rintro e w' ⟨rfl, rfl⟩; exact ⟨rfl, hW⟩
  simp only [Act.put, List.setIfInBounds_toArray, List.set_cons_succ, List.set_cons_zero]
  refine SeqV.step (.bool true) (by rfl) (fun W hW => ?_) ?_
  · unfold Oper.wp
    simp [go_sem]
    try exact hW
  simp only [Act.put, List.setIfInBounds_toArray, List.set_cons_succ, List.set_cons_zero]
  refine SeqV.step (.bool true) (by rfl) (fun W hW => ?_) ?_
  · unfold Oper.wp
    simp [go_sem]
    try exact hW
  simp only [Act.put, List.setIfInBounds_toArray, List.set_cons_succ, List.set_cons_zero]
  intro W hW
  go_wp2_with fail
  go_ret
  exact ⟨ret_bool HF.out.symm, ((Below.refl _ _).alloc (Nat.le_refl _) _).trans (hW.mono (by omega))⟩

end Go.Proofs.Ytiocchmlmcoieaa
/- spec.ObjectValid. -/
namespace Go.Proofs.Ytiocchmlmcoieaa
open Go.RowKit

/-- Two symbols that are not local, with the same name. -/
def clash (x y : Sm) : Bool := decide (x.name = y.name) && decide (x.bind ≠ 0) && decide (y.bind ≠ 0)
/-- These symbols are valid, behind those. -/
def symsOk (ss : List Sx) : List Sm → List Sm → Bool
  | _, [] => true
  | d, m :: r => symOk m ss && (d.all (fun x => !clash x m) && symsOk ss (d ++ [m]) r)
/-- Is an object valid? -/
def objOk (ss : List Sx) (ms : List Sm) : Bool :=
  ss.all (fun s => sectOk s ms.length) && (symsOk ss [] ms && (decide (ss.length ≤ 8) && decide (ms.length ≤ 12)))
set_option maxRecDepth 100000 in
set_option maxHeartbeats 2000000 in
theorem objectValid'_any (w : World) (B : Nat) (a1 a2 : Option Addr) (c1 c2 n m : Nat) (l : List Sp) (ms : List Sm) (hn : n = l.length) (hm : m = ms.length) (h1 : Sects w B a1 l) (h2 : Syms w B a2 ms) (hB : B ≤ w.heap.size) (hlen : n ≤ 9223372036854775807) (hlem : m ≤ 9223372036854775807)
    (hl : ∀ y ∈ l, y.s.lens) (hs : ∀ x ∈ ms, x.name.size ≤ maxLen) :
    Calls Try.prog 30 #[.agg #[.slice a1 n c1, .slice a2 m c2]] w fun e w' => e = .returned (.bool (objOk (l.map Sp.s) ms)) ∧ Below w.heap.size w w' := by
  obtain ⟨ok, hok⟩ : ∃ ok, ok = objOk (l.map Sp.s) ms := ⟨_, rfl⟩
  have HOK : Hid (ok = (l.all (fun y => sectOk y.s m) && (symsOk (l.map Sp.s) [] ms && (decide (n ≤ 8) && decide (m ≤ 12))))) := by
    show _ = _
    rw [hok, hn, hm]
    unfold objOk
    rw [List.all_map, List.length_map]
    rfl
  rw [← hok]
  have HN := hidden hn
  have HM := hidden hm
  have H1 := hidden h1
  have H2 := hidden h2
  have HL := hidden hl
  have HS := hidden hs
  have HB := hidden hB
  clear hok hn hm h1 h2 hl hs
  go_enter Try.func30, Try.ntmps30
  go_wp2_with fail
  go_loopw [3] (fun i wr => ∃ k : Nat, i = .int .i64 k ∧ k ≤ n ∧ Hid (l.all (fun y => sectOk y.s m) = (l.drop k).all (fun y => sectOk y.s m)) ∧ Below (w.heap.size + 1) (w.alloc (.cells #[.slice a1 n c1, .slice a2 m c2] 29)) wr) (fun i _ => n - (intOf i).toNat)
  case atStart => exact ⟨0, rfl, Nat.zero_le _, hidden (by simp), Below.refl _ _⟩
  case round =>
    obtain ⟨k, rfl, hk, hall, hbw⟩ := hrel
    have hb0 : Below w.heap.size w wr := ((Below.refl _ _).alloc (Nat.le_refl _) _).trans (hbw.mono (Nat.le_succ _))
    have hsz : w.heap.size + 1 ≤ wr.heap.size := by have := hbw.size; simpa using this
    have HC0 : Hid (∀ W, Below wr.heap.size wr W → W.cell? ⟨w.heap.size, 0, none⟩ = some (.slice a1 n c1)) := fun W hW => ((hW.cell (by show w.heap.size < _; omega)).trans (hbw.cell (Nat.lt_succ_self _))).trans ((Has.new w 29 _).cell 0)
    have HC1 : Hid (∀ W, Below wr.heap.size wr W → W.cell? ⟨w.heap.size, 1, none⟩ = some (.slice a2 m c2)) := fun W hW => ((hW.cell (by show w.heap.size < _; omega)).trans (hbw.cell (Nat.lt_succ_self _))).trans ((Has.new w 29 _).cell 1)
    have q0 := HC0.out wr (Below.refl _ _)
    by_cases hlt : k < n
    · have hi : (k : Int) < (n : Int) := by omega
      have hkl : k < l.length := by rw [← HN.out]; exact hlt
      obtain ⟨b, off, rfl, hb, hp⟩ := H1.out.at_ hkl
      obtain ⟨y, hy⟩ : ∃ y, l[k] = y := ⟨_, rfl⟩
      rw [hy] at hp
      have hmem : y ∈ l := by rw [← hy]; exact List.getElem_mem hkl
      have HP : Hid (∀ W, Below wr.heap.size wr W → SecAt W b (off + k * 6) y) := fun W hW => hp.keep fun i => by
        rw [hW.cell (by show b < _; omega), hb0.cell (by show b < _; omega)]
      have HFX : Hid (∀ W, Below wr.heap.size wr W → Fixs W B y.a2 y.s.fixs) := fun W hW => ((H1.out.fixs y hmem).below (hb0.mono HB.out)).below (hW.mono (by omega))
      have hyl := HL.out y hmem
      have HSV := hidden (fun (W : World) (hW : Below wr.heap.size wr W) => sectionValid'_any W B y.s m y.a1 y.c1 y.a2 y.c2 (HFX.out W hW) (by have := hW.size; omega) hyl.1 hyl.2.1 hyl.2.2)
      have HD : Hid (l.drop k = y :: l.drop (k + 1)) := by show _ = _; rw [List.drop_eq_getElem_cons hkl, hy]
      obtain ⟨sok, hsok⟩ : ∃ b, sectOk y.s m = b := ⟨_, rfl⟩
      rw [hsok] at HSV
      have HK := hidden hsok
      have hbB := hb
      clear hp hy hmem hkl hyl hsok HFX
      go_upto_region 4 with fail
      refine wp_region_seq (by kernel_rfl) (fun W => Below wr.heap.size wr W) (by kernel_rfl) (Below.refl _ _).drew ?_
      refine SeqV.step (.pointer (some ⟨w.heap.size, 0, none⟩)) (by rfl) (fun W hW => ?_) ?_
      · unfold Oper.wp
        simp [go_sem]
        try exact hW
      simp only [Act.put, List.setIfInBounds_toArray, List.set_cons_succ, List.set_cons_zero]
      refine SeqV.step (.slice (some ⟨b, off, none⟩) n c1) (by rfl) (fun W hW => ?_) ?_
      · have q := HC0.out W hW; unfold Oper.wp
        simp [go_sem, *]
        try exact hW
      simp only [Act.put, List.setIfInBounds_toArray, List.set_cons_succ, List.set_cons_zero]
      refine SeqV.step (.int .i64 k) (by rfl) (fun W hW => ?_) ?_
      · unfold Oper.wp
        simp [go_sem]
        try exact hW
      simp only [Act.put, List.setIfInBounds_toArray, List.set_cons_succ, List.set_cons_zero]
      refine SeqV.step (.pointer (some ⟨b, off + k * 6, none⟩)) (by rfl) (fun W hW => ?_) ?_
      · have q := hi; unfold Oper.wp
        simp [go_sem, *]
        try exact hW
      simp only [Act.put, List.setIfInBounds_toArray, List.set_cons_succ, List.set_cons_zero]
      refine SeqV.step (.agg #[.string y.s.name, .int .i64 y.s.kind, .int .i64 y.s.align, .slice y.a1 y.s.bytes.length y.c1, .int .i64 y.s.size, .slice y.a2 y.s.fixs.length y.c2]) (by rfl) (fun W hW => ?_) ?_
      · obtain ⟨p0, p1, p2, p3, p4, p5⟩ := HP.out W hW; unfold Oper.wp
        simp [go_sem, *]
        try exact hW
      simp only [Act.put, List.setIfInBounds_toArray, List.set_cons_succ, List.set_cons_zero]
      refine SeqV.step (.pointer (some ⟨w.heap.size, 1, none⟩)) (by rfl) (fun W hW => ?_) ?_
      · unfold Oper.wp
        simp [go_sem]
        try exact hW
      simp only [Act.put, List.setIfInBounds_toArray, List.set_cons_succ, List.set_cons_zero]
      refine SeqV.step (.slice a2 m c2) (by rfl) (fun W hW => ?_) ?_
      · have q := HC1.out W hW; unfold Oper.wp
        simp [go_sem, *]
        try exact hW
      simp only [Act.put, List.setIfInBounds_toArray, List.set_cons_succ, List.set_cons_zero]
      refine SeqV.step (.int .i64 m) (by rfl) (fun W hW => ?_) ?_
      · unfold Oper.wp
        simp [go_sem]
        try exact hW
      simp only [Act.put, List.setIfInBounds_toArray, List.set_cons_succ, List.set_cons_zero]
      refine SeqV.step (.bool sok) (by rfl) (fun W hW => ?_) ?_
      · unfold Oper.wp
        simp [go_sem]
        refine (HSV.out W hW).mono ?_; rintro e w' ⟨rfl, hb⟩; exact ⟨rfl, hW.trans (hb.mono hW.size)⟩
      simp only [Act.put, List.setIfInBounds_toArray, List.set_cons_succ, List.set_cons_zero]
      refine SeqV.step (.bool (!sok)) (by rfl) (fun W hW => ?_) ?_
      · unfold Oper.wp
        simp [go_sem]
        try exact hW
      simp only [Act.put, List.setIfInBounds_toArray, List.set_cons_succ, List.set_cons_zero]
      intro W hW
      clear q0 HC0 HC1 HP HSV
      rcases sok with _ | _
      · have HF : Hid (ok = false) := by show _ = _; rw [HOK.out, hall.out, HD.out, List.all_cons, HK.out]; simp
        go_wp2_with fail
        go_ret
        exact ⟨ret_bool HF.out.symm, hb0.trans (hW.mono hb0.size)⟩
      · have HN2 : Hid (l.all (fun y => sectOk y.s m) = (l.drop (k + 1)).all (fun y => sectOk y.s m)) := by show _ = _; rw [hall.out, HD.out, List.all_cons, HK.out, Bool.true_and]
        have hbw2 : Below (w.heap.size + 1) (w.alloc (.cells #[.slice (some ⟨b, off, none⟩) n c1, .slice a2 m c2] 29)) W := hbw.trans (hW.mono (by simpa using hbw.size))
        go_wp2_with fail
        go_roundw
        case rel => exact ⟨k + 1, by go_num, by omega, HN2, hbw2⟩
        case measure => simp [intOf]; omega
    · have hi : ¬ (k : Int) < (n : Int) := by omega
      have HA : Hid (ok = (symsOk (l.map Sp.s) [] ms && (decide (n ≤ 8) && decide (m ≤ 12)))) := by
        show _ = _
        have hd : l.drop k = [] := List.drop_eq_nil_of_le (by rw [← HN.out]; omega)
        rw [HOK.out, hall.out, hd]; simp
      clear hall HOK
      go_wp2_with fail
      clear HC0 HC1 q0 hlt hi hk hb0 hsz
      go_loopw [4] (fun i wq => ∃ k : Nat, i = .int .i64 k ∧ k ≤ m ∧ Hid (symsOk (l.map Sp.s) [] ms = symsOk (l.map Sp.s) (ms.take k) (ms.drop k)) ∧ Below (w.heap.size + 1) (w.alloc (.cells #[.slice a1 n c1, .slice a2 m c2] 29)) wq) (fun i _ => m - (intOf i).toNat)
      case atStart => exact ⟨0, rfl, Nat.zero_le _, hidden (by simp), hbw⟩
      case round =>
        clear hbw
        obtain ⟨k, rfl, hk, hall, hbw⟩ := hrel
        have hb0 : Below w.heap.size w wr := ((Below.refl _ _).alloc (Nat.le_refl _) _).trans (hbw.mono (Nat.le_succ _))
        have hsz : w.heap.size + 1 ≤ wr.heap.size := by have := hbw.size; simpa using this
        have HC0 : Hid (∀ W, Below wr.heap.size wr W → W.cell? ⟨w.heap.size, 0, none⟩ = some (.slice a1 n c1)) := fun W hW => ((hW.cell (by show w.heap.size < _; omega)).trans (hbw.cell (Nat.lt_succ_self _))).trans ((Has.new w 29 _).cell 0)
        have HC1 : Hid (∀ W, Below wr.heap.size wr W → W.cell? ⟨w.heap.size, 1, none⟩ = some (.slice a2 m c2)) := fun W hW => ((hW.cell (by show w.heap.size < _; omega)).trans (hbw.cell (Nat.lt_succ_self _))).trans ((Has.new w 29 _).cell 1)
        have q1 := HC1.out wr (Below.refl _ _)
        by_cases hlt : k < m
        · have hi : (k : Int) < (m : Int) := by omega
          have hkl : k < ms.length := by rw [← HM.out]; exact hlt
          obtain ⟨b, off, rfl, hb, hp⟩ := (H2.out.below (hb0.mono HB.out)).at_ hkl
          obtain ⟨z, hz⟩ : ∃ z, ms[k] = z := ⟨_, rfl⟩
          rw [hz] at hp
          have HSZ := hidden (HS.out z (by rw [← hz]; exact List.getElem_mem hkl))
          have HD : Hid (ms.drop k = z :: ms.drop (k + 1)) := by show _ = _; rw [List.drop_eq_getElem_cons hkl, hz]
          have HT : Hid (ms.take (k + 1) = ms.take k ++ [z]) := by show _ = _; rw [List.take_add_one, List.getElem?_eq_getElem hkl, hz]; rfl
          obtain ⟨xn, xb, xl, xv⟩ := z
          simp only at hp
          have HP : Hid (∀ W, Below wr.heap.size wr W → W.cell? ⟨b, off + k * 4, none⟩ = some (.string xn) ∧ W.cell? ⟨b, off + k * 4 + 1, none⟩ = some (.int .i64 xb) ∧ W.cell? ⟨b, off + k * 4 + 2, none⟩ = some (.int .i64 xl) ∧ W.cell? ⟨b, off + k * 4 + 3, none⟩ = some (.int .i64 xv)) := fun W hW =>
            ⟨(hW.cell (by show b < _; omega)).trans hp.1, (hW.cell (by show b < _; omega)).trans hp.2.1, (hW.cell (by show b < _; omega)).trans hp.2.2.1, (hW.cell (by show b < _; omega)).trans hp.2.2.2⟩
          have HSV := hidden (fun (W : World) (hW : Below wr.heap.size wr W) => symbolValid'_any W B ⟨xn, xb, xl, xv⟩ a1 c1 n l HN.out ((H1.out.below (hb0.mono HB.out)).below (hW.mono (by omega))) (by have := hW.size; omega) hlen HSZ.out HL.out)
          obtain ⟨sok, hsok⟩ : ∃ b, symOk ⟨xn, xb, xl, xv⟩ (l.map Sp.s) = b := ⟨_, rfl⟩
          rw [hsok] at HSV
          have HK := hidden hsok
          have HZ : Hid (ms[k]'hkl = ⟨xn, xb, xl, xv⟩) := hz
          clear hp hz hsok
          go_upto_region 9 with fail
          refine wp_region_seq (by kernel_rfl) (fun W => Below wr.heap.size wr W) (by kernel_rfl) (Below.refl _ _).drew ?_
          refine SeqV.step (.pointer (some ⟨w.heap.size, 1, none⟩)) (by rfl) (fun W hW => ?_) ?_
          · unfold Oper.wp
            simp [go_sem]
            try exact hW
          simp only [Act.put, List.setIfInBounds_toArray, List.set_cons_succ, List.set_cons_zero]
          refine SeqV.step (.slice (some ⟨b, off, none⟩) m c2) (by rfl) (fun W hW => ?_) ?_
          · have q := HC1.out W hW; unfold Oper.wp
            simp [go_sem, *]
            try exact hW
          simp only [Act.put, List.setIfInBounds_toArray, List.set_cons_succ, List.set_cons_zero]
          refine SeqV.step (.int .i64 k) (by rfl) (fun W hW => ?_) ?_
          · unfold Oper.wp
            simp [go_sem]
            try exact hW
          simp only [Act.put, List.setIfInBounds_toArray, List.set_cons_succ, List.set_cons_zero]
          refine SeqV.step (.pointer (some ⟨b, off + k * 4, none⟩)) (by rfl) (fun W hW => ?_) ?_
          · have q := hi; unfold Oper.wp
            simp [go_sem, *]
            try exact hW
          simp only [Act.put, List.setIfInBounds_toArray, List.set_cons_succ, List.set_cons_zero]
          refine SeqV.step (.agg #[.string xn, .int .i64 xb, .int .i64 xl, .int .i64 xv]) (by rfl) (fun W hW => ?_) ?_
          · obtain ⟨p0, p1, p2, p3⟩ := HP.out W hW; unfold Oper.wp
            simp [go_sem, *]
            try exact hW
          simp only [Act.put, List.setIfInBounds_toArray, List.set_cons_succ, List.set_cons_zero]
          refine SeqV.step (.pointer (some ⟨w.heap.size, 0, none⟩)) (by rfl) (fun W hW => ?_) ?_
          · unfold Oper.wp
            simp [go_sem]
            try exact hW
          simp only [Act.put, List.setIfInBounds_toArray, List.set_cons_succ, List.set_cons_zero]
          refine SeqV.step (.slice a1 n c1) (by rfl) (fun W hW => ?_) ?_
          · have q := HC0.out W hW; unfold Oper.wp
            simp [go_sem, *]
            try exact hW
          simp only [Act.put, List.setIfInBounds_toArray, List.set_cons_succ, List.set_cons_zero]
          refine SeqV.step (.bool sok) (by rfl) (fun W hW => ?_) ?_
          · unfold Oper.wp
            simp [go_sem]
            refine (HSV.out W hW).mono ?_; rintro e w' ⟨rfl, hb⟩; exact ⟨rfl, hW.trans (hb.mono hW.size)⟩
          simp only [Act.put, List.setIfInBounds_toArray, List.set_cons_succ, List.set_cons_zero]
          refine SeqV.step (.bool (!sok)) (by rfl) (fun W hW => ?_) ?_
          · unfold Oper.wp
            simp [go_sem]
            try exact hW
          simp only [Act.put, List.setIfInBounds_toArray, List.set_cons_succ, List.set_cons_zero]
          intro W hW
          clear q1 HC0 HSV
          rcases sok with _ | _
          · have HF : Hid (ok = false) := by show _ = _; rw [HA.out, hall.out, HD.out, symsOk, HK.out]; simp
            go_wp2_with fail
            go_ret
            exact ⟨ret_bool HF.out.symm, hb0.trans (hW.mono hb0.size)⟩
          have HA2 : Hid (symsOk (l.map Sp.s) [] ms = ((ms.take k).all (fun x => !clash x ⟨xn, xb, xl, xv⟩) && symsOk (l.map Sp.s) (ms.take (k + 1)) (ms.drop (k + 1)))) := by
            show _ = _; rw [hall.out, HD.out, symsOk, HK.out, Bool.true_and, HT.out]
          have hbw2 : Below (w.heap.size + 1) (w.alloc (.cells #[.slice a1 n c1, .slice (some ⟨b, off, none⟩) m c2] 29)) W := hbw.trans (hW.mono (by simpa using hbw.size))
          have hb2 : b < B := hb
          clear hall HD HK HT hbw hb0 HP HC1 hW hsz
          go_wp2_with fail
          go_loopw [5] (fun i wv => ∃ j : Nat, i = .int .i64 j ∧ j ≤ k ∧ Hid ((ms.take k).all (fun x => !clash x ⟨xn, xb, xl, xv⟩) = ((ms.take k).drop j).all (fun x => !clash x ⟨xn, xb, xl, xv⟩)) ∧ Below (w.heap.size + 1) (w.alloc (.cells #[.slice a1 n c1, .slice (some ⟨b, off, none⟩) m c2] 29)) wv) (fun i _ => k - (intOf i).toNat)
          case atStart => exact ⟨0, rfl, Nat.zero_le _, hidden (by simp), hbw2⟩
          case round =>
            clear hbw2
            obtain ⟨j, rfl, hj, hrest, hbw⟩ := hrel
            have hb0 : Below w.heap.size w wr := ((Below.refl _ _).alloc (Nat.le_refl _) _).trans (hbw.mono (Nat.le_succ _))
            by_cases hjk : j < k
            · have hji : (j : Int) < (k : Int) := by omega
              have hjm : (j : Int) < (m : Int) := by omega
              have q1 : wr.cell? ⟨w.heap.size, 1, none⟩ = some (.slice (some ⟨b, off, none⟩) m c2) := (hbw.cell (Nat.lt_succ_self _)).trans ((Has.new w 29 _).cell 1)
              have HY := H2.out.below (hb0.mono HB.out)
              obtain ⟨b', off', hbo, -, pz0, pz1, -, -⟩ := HY.at_ (show k < ms.length by rw [← HM.out]; exact hlt)
              injection hbo with hbo
              injection hbo with e1 e2 e3
              subst e1; subst e2
              rw [HZ.out] at pz0 pz1
              obtain ⟨b', off', hbo, -, px0, px1, -, -⟩ := HY.at_ (show j < ms.length by rw [← HM.out]; omega)
              injection hbo with hbo
              injection hbo with e1 e2 e3
              subst e1; subst e2
              obtain ⟨x, hx⟩ : ∃ x, ms[j]'(by rw [← HM.out]; omega) = x := ⟨_, rfl⟩
              rw [hx] at px0 px1
              have HD : Hid ((ms.take k).drop j = x :: (ms.take k).drop (j + 1)) := by
                show _ = _
                have hjl : j < (ms.take k).length := by rw [List.length_take, ← HM.out]; omega
                rw [List.drop_eq_getElem_cons hjl, List.getElem_take, hx]
              obtain ⟨yn, yb, yl, yv⟩ := x
              simp only at px0 px1 pz0 pz1
              have HC : Hid (clash ⟨yn, yb, yl, yv⟩ ⟨xn, xb, xl, xv⟩ = (decide (yn = xn) && decide (yb ≠ 0) && decide (xb ≠ 0))) := rfl
              clear hx HY
              by_cases hnm : yn = xn
              · subst hnm
                by_cases hy0 : yb = 0
                · have y0 : (yb != 0) = false := by simp [hy0]
                  have HN2 : Hid ((ms.take k).all (fun x => !clash x ⟨yn, xb, xl, xv⟩) = ((ms.take k).drop (j + 1)).all (fun x => !clash x ⟨yn, xb, xl, xv⟩)) := by
                    show _ = _; rw [hrest.out, HD.out, List.all_cons, HC.out]; simp [hy0]
                  clear hrest HD HC HA2 HA H1 H2 HZ HSZ hy0
                  go_wp2_with fail
                  go_quiet (fail)
                  go_wp2_with fail
                  go_roundw
                  case rel => exact ⟨j + 1, by go_num, by omega, HN2, below_drewN hbw _⟩
                  case measure => simp [intOf]; omega
                have y0 : (yb != 0) = true := by simp [hy0]
                by_cases hx0 : xb = 0
                · have x0 : (xb != 0) = false := by simp [hx0]
                  have HN2 : Hid ((ms.take k).all (fun x => !clash x ⟨yn, xb, xl, xv⟩) = ((ms.take k).drop (j + 1)).all (fun x => !clash x ⟨yn, xb, xl, xv⟩)) := by
                    show _ = _; rw [hrest.out, HD.out, List.all_cons, HC.out]; simp [hx0]
                  clear hrest HD HC HA2 HA H1 H2 HZ HSZ hx0 hy0
                  go_wp2_with fail
                  go_quiet (fail)
                  go_wp2_with fail
                  go_roundw
                  case rel => exact ⟨j + 1, by go_num, by omega, HN2, below_drewN hbw _⟩
                  case measure => simp [intOf]; omega
                have x0 : (xb != 0) = true := by simp [hx0]
                have HF : Hid (ok = false) := by
                  show _ = _
                  rw [HA.out, HA2.out, hrest.out, HD.out, List.all_cons, HC.out]; simp [hy0, hx0]
                clear hrest HD HC HA2 HA H1 H2 HZ HSZ hx0 hy0
                go_wp2_with fail
                go_quiet (fail)
                go_wp2_with fail
                go_ret
                exact ⟨ret_bool HF.out.symm, below_drewN hb0 _⟩
              · have hs0 := str_ne hnm
                have HN2 : Hid ((ms.take k).all (fun x => !clash x ⟨xn, xb, xl, xv⟩) = ((ms.take k).drop (j + 1)).all (fun x => !clash x ⟨xn, xb, xl, xv⟩)) := by
                  show _ = _; rw [hrest.out, HD.out, List.all_cons, HC.out]; simp [hnm]
                clear hrest HD HC HA2 HA H1 H2 HZ HSZ hnm
                go_wp2_with fail
                go_quiet (fail)
                go_wp2_with fail
                go_roundw
                case rel => exact ⟨j + 1, by go_num, by omega, HN2, below_drewN hbw _⟩
                case measure => simp [intOf]; omega
            · have hji : ¬ (j : Int) < (k : Int) := by omega
              have HE : Hid (symsOk (l.map Sp.s) [] ms = symsOk (l.map Sp.s) (ms.take (k + 1)) (ms.drop (k + 1))) := by
                show _ = _
                have hd : (ms.take k).drop j = [] := List.drop_eq_nil_of_le (by rw [List.length_take]; omega)
                rw [HA2.out, hrest.out, hd]; simp
              clear hrest HA2
              go_wp2_with fail
              go_roundw
              case rel => exact ⟨k + 1, by go_num, by omega, HE, hbw⟩
              case measure => simp [intOf]; omega
        · have hi : ¬ (k : Int) < (m : Int) := by omega
          have HE : Hid (ok = (decide (n ≤ 8) && decide (m ≤ 12))) := by
            show _ = _
            have hd : ms.drop k = [] := List.drop_eq_nil_of_le (by rw [← HM.out]; omega)
            rw [HA.out, hall.out, hd]; simp [symsOk]
          have q0 := HC0.out wr (Below.refl _ _)
          clear hall HA HC0 HC1
          by_cases hn8 : (n : Int) ≤ 8
          · have e8 : decide (n ≤ 8) = true := by simp; omega
            by_cases hm12 : (m : Int) ≤ 12
            · have HF : Hid (ok = true) := by show _ = _; rw [HE.out, e8]; simp; omega
              clear HE e8
              go_wp2_with fail
              go_ret
              exact ⟨ret_bool HF.out.symm, hb0⟩
            · have HF : Hid (ok = false) := by show _ = _; rw [HE.out, e8]; simp; omega
              clear HE e8
              go_wp2_with fail
              go_ret
              exact ⟨ret_bool HF.out.symm, hb0⟩
          · have HF : Hid (ok = false) := by show _ = _; rw [HE.out]; simp; omega
            clear HE
            go_wp2_with fail
            go_ret
            exact ⟨ret_bool HF.out.symm, hb0⟩

end Go.Proofs.Ytiocchmlmcoieaa
/- What is told by valid symbols. -/
namespace Go.Proofs.Ytiocchmlmcoieaa
open Go.RowKit

theorem symsOk_told (ss : List Sx) : ∀ (ms d : List Sm), symsOk ss d ms = true → (∀ m ∈ ms, symOk m ss = true) ∧ (∀ x ∈ d, ∀ m ∈ ms, clash x m = false) ∧ ms.Pairwise (fun x y => clash x y = false)
  | [], d, _ => ⟨by simp, by simp, List.Pairwise.nil⟩
  | y :: r, d, h => by
    simp only [symsOk, Bool.and_eq_true, List.all_eq_true, Bool.not_eq_true'] at h
    obtain ⟨h1, h2, h3⟩ := h
    obtain ⟨i1, i2, i3⟩ := symsOk_told ss r (d ++ [y]) h3
    refine ⟨fun m hm => ?_, fun x hx m hm => ?_, List.Pairwise.cons (fun m hm => i2 y (by simp) m hm) i3⟩
    · rcases List.mem_cons.1 hm with rfl | hm
      · exact h1
      · exact i1 m hm
    · rcases List.mem_cons.1 hm with rfl | hm
      · exact h2 x hx
      · exact i2 x (by simp [hx]) m hm

end Go.Proofs.Ytiocchmlmcoieaa

/-
  impl.SymbolValid.
-/
import Derived.Test.YtjafekjcncmjjaaGreatWant4
import Derived.Test.YtjafekjcncmjjaaGreatSecK
import Derived.Test.YtjafekjcncmjjaaGreatNamesI
import Derived.Test.YtjafekjcncmjjaaGreatRegionV
import Derived.Deep.Cut
import Derived.Deep.CutRange
import Derived.IntWalk
namespace Go.Proofs.YtjafekjcncmjjaaGreat
open Go.RowKit

set_option maxRecDepth 100000 in
set_option maxHeartbeats 2000000 in
theorem symbolValid_any (hSE : WantSectionSize) (w : World) (B : Nat) (m : Sm) (a : Option Addr) (c n : Nat) (l : List Sp) (hn : n = l.length) (h : Sects w B a l) (hB : B ≤ w.heap.size) (hlen : n ≤ 9223372036854775807) (hname : m.name.size ≤ maxLen) (hl : ∀ y ∈ l, y.s.fits) :
    Calls Tryz.prog 79 #[m.agg, .slice a n c] w fun e w' => e = .returned (.bool (symOk m (l.map Sp.s))) ∧ Below w.heap.size w w' := by
  obtain ⟨nm, bd, lo, va⟩ := m
  unfold Sm.agg
  simp only at hname ⊢
  have HNV := hidden (fun W => nameValid_any nm W hname)
  have HSE := hidden hSE
  obtain ⟨ok, hok⟩ : ∃ ok, ok = symOk ⟨nm, bd, lo, va⟩ (l.map Sp.s) := ⟨_, rfl⟩
  have HOK : Hid (ok = (nameOk nm.data.toList && decide (0 ≤ bd ∧ bd ≤ 2) &&
      (if lo = -1 then decide (va = 0) && decide (bd ≠ 0) else if lo = -2 then decide (0 ≤ va ∧ va ≤ 60000) else decide (0 ≤ lo ∧ lo < n) && decide (0 ≤ va ∧ va ≤ (((l.map Sp.s)[lo.toNat]?).map Sx.long).getD 0)))) := by
    show _ = _; rw [hok, hn]; unfold symOk; simp only [List.length_map]
  rw [← hok]
  have HN := hidden hn
  have H1 := hidden h
  have HL := hidden hl
  have HLN := hidden hlen
  clear hok hn h hl hname hSE
  rcases hnm : nameOk nm.data.toList with _ | _
  · rw [hnm] at HNV HOK
    have HF : Hid (ok = false) := by show _ = _; rw [HOK.out]; simp
    clear HOK H1 HL HN HLN HSE
    go_enter Tryz.func79, Tryz.ntmps79
    go_wp2_with (go_at_call 80; refine (HNV.out _).mono ?_; rintro e w' ⟨rfl, rfl⟩)
    go_ret
    exact ⟨ret_bool HF.out.symm, (Below.refl _ _).alloc (Nat.le_refl _) _⟩
  rw [hnm] at HNV HOK
  clear hnm
  by_cases b1 : bd < 0
  · have HF : Hid (ok = false) := by show _ = _; rw [HOK.out]; simp; omega
    clear HOK H1 HL HN HLN HSE
    go_enter Tryz.func79, Tryz.ntmps79
    go_wp2_with (go_at_call 80; refine (HNV.out _).mono ?_; rintro e w' ⟨rfl, rfl⟩)
    go_ret
    exact ⟨ret_bool HF.out.symm, (Below.refl _ _).alloc (Nat.le_refl _) _⟩
  by_cases b2 : 2 < bd
  · have HF : Hid (ok = false) := by show _ = _; rw [HOK.out]; simp; omega
    clear HOK H1 HL HN HLN HSE
    go_enter Tryz.func79, Tryz.ntmps79
    go_wp2_with (go_at_call 80; refine (HNV.out _).mono ?_; rintro e w' ⟨rfl, rfl⟩)
    go_ret
    exact ⟨ret_bool HF.out.symm, (Below.refl _ _).alloc (Nat.le_refl _) _⟩
  have hbd : decide (0 ≤ bd ∧ bd ≤ 2) = true := by simp; omega
  rw [hbd] at HOK
  clear hbd
  by_cases l1 : lo = -1
  · have l1' : (lo == -1) = true := by simp [l1]
    rw [if_pos l1] at HOK
    clear l1
    by_cases z0 : bd = 0
    · have z0' : (bd == 0) = true := by simp [z0]
      have z1' : (bd != 0) = false := by simp [z0]
      have HF : Hid (ok = false) := by show _ = _; rw [HOK.out]; simp [z0]
      clear HOK H1 HL HN HLN HSE
      go_enter Tryz.func79, Tryz.ntmps79
      go_wp2_with (go_at_call 80; refine (HNV.out _).mono ?_; rintro e w' ⟨rfl, rfl⟩)
      go_ret
      exact ⟨ret_bool HF.out.symm, (Below.refl _ _).alloc (Nat.le_refl _) _⟩
    have z0' : (bd == 0) = false := by simpa using z0
    have z1' : (bd != 0) = true := by simpa using z0
    by_cases v0 : va = 0
    · have v0' : (va == 0) = true := by simp [v0]
      have HF : Hid (ok = true) := by show _ = _; rw [HOK.out]; simp [v0, z0]
      clear HOK H1 HL HN HLN HSE
      go_enter Tryz.func79, Tryz.ntmps79
      go_wp2_with (go_at_call 80; refine (HNV.out _).mono ?_; rintro e w' ⟨rfl, rfl⟩)
      go_ret
      exact ⟨ret_bool HF.out.symm, (Below.refl _ _).alloc (Nat.le_refl _) _⟩
    · have v0' : (va == 0) = false := by simpa using v0
      have HF : Hid (ok = false) := by show _ = _; rw [HOK.out]; simp [v0]
      clear HOK H1 HL HN HLN HSE
      go_enter Tryz.func79, Tryz.ntmps79
      go_wp2_with (go_at_call 80; refine (HNV.out _).mono ?_; rintro e w' ⟨rfl, rfl⟩)
      go_ret
      exact ⟨ret_bool HF.out.symm, (Below.refl _ _).alloc (Nat.le_refl _) _⟩
  have l1' : (lo == -1) = false := by simpa using l1
  rw [if_neg l1] at HOK
  by_cases l2 : lo = -2
  · have l2' : (lo == -2) = true := by simp [l2]
    rw [if_pos l2] at HOK
    clear l1 l2
    by_cases v0 : va < 0
    · have HF : Hid (ok = false) := by show _ = _; rw [HOK.out]; simp; omega
      clear HOK H1 HL HN HLN HSE
      go_enter Tryz.func79, Tryz.ntmps79
      go_wp2_with (go_at_call 80; refine (HNV.out _).mono ?_; rintro e w' ⟨rfl, rfl⟩)
      go_ret
      exact ⟨ret_bool HF.out.symm, (Below.refl _ _).alloc (Nat.le_refl _) _⟩
    by_cases v1 : va ≤ 60000
    · have HF : Hid (ok = true) := by show _ = _; rw [HOK.out]; simp; omega
      clear HOK H1 HL HN HLN HSE
      go_enter Tryz.func79, Tryz.ntmps79
      go_wp2_with (go_at_call 80; refine (HNV.out _).mono ?_; rintro e w' ⟨rfl, rfl⟩)
      go_ret
      exact ⟨ret_bool HF.out.symm, (Below.refl _ _).alloc (Nat.le_refl _) _⟩
    have HF : Hid (ok = false) := by show _ = _; rw [HOK.out]; simp; omega
    clear HOK H1 HL HN HLN HSE
    go_enter Tryz.func79, Tryz.ntmps79
    go_wp2_with (go_at_call 80; refine (HNV.out _).mono ?_; rintro e w' ⟨rfl, rfl⟩)
    go_ret
    exact ⟨ret_bool (by rw [HF.out]; simpa using v1), (Below.refl _ _).alloc (Nat.le_refl _) _⟩
  have l2' : (lo == -2) = false := by simpa using l2
  rw [if_neg l2] at HOK
  clear l1 l2
  by_cases k0 : lo < 0
  · have HF : Hid (ok = false) := by show _ = _; rw [HOK.out]; simp; omega
    clear HOK H1 HL HN HLN HSE
    go_enter Tryz.func79, Tryz.ntmps79
    go_wp2_with (go_at_call 80; refine (HNV.out _).mono ?_; rintro e w' ⟨rfl, rfl⟩)
    go_ret
    exact ⟨ret_bool HF.out.symm, (Below.refl _ _).alloc (Nat.le_refl _) _⟩
  by_cases k1 : (n : Int) ≤ lo
  · have HF : Hid (ok = false) := by show _ = _; rw [HOK.out]; simp; omega
    clear HOK H1 HL HN HLN HSE
    go_enter Tryz.func79, Tryz.ntmps79
    go_wp2_with (go_at_call 80; refine (HNV.out _).mono ?_; rintro e w' ⟨rfl, rfl⟩)
    go_ret
    exact ⟨ret_bool HF.out.symm, (Below.refl _ _).alloc (Nat.le_refl _) _⟩
  obtain ⟨k, rfl⟩ : ∃ k : Nat, lo = k := ⟨lo.toNat, by omega⟩
  have HQ2 : Hid (∀ W, Below (w.heap.size + 1) (w.alloc (.cells #[.string nm, .int .i64 bd, .int .i64 (k : Int), .int .i64 va] 56)) W → W.cell? ⟨w.heap.size, 2, none⟩ = some (.int .i64 (k : Int))) := fun W hW => (hW.cell (Nat.lt_succ_self _)).trans ((Has.new w 56 _).cell 2)
  have HQ3 : Hid (∀ W, Below (w.heap.size + 1) (w.alloc (.cells #[.string nm, .int .i64 bd, .int .i64 (k : Int), .int .i64 va] 56)) W → W.cell? ⟨w.heap.size, 3, none⟩ = some (.int .i64 va)) := fun W hW => (hW.cell (Nat.lt_succ_self _)).trans ((Has.new w 56 _).cell 3)
  have hkl : k < l.length := by rw [← HN.out]; omega
  obtain ⟨b, off, rfl, hb, hp⟩ := H1.out.at_ hkl
  obtain ⟨y, hy⟩ : ∃ y, l[k] = y := ⟨_, rfl⟩
  rw [hy] at hp
  have HP : Hid (∀ W, Below (w.heap.size + 1) (w.alloc (.cells #[.string nm, .int .i64 bd, .int .i64 (k : Int), .int .i64 va] 56)) W → SecAt W b (off + k * 6) y) := fun W hW => hp.keep fun i => by
    rw [hW.cell (by show b < _; omega)]
    exact World.cell?_alloc_lt _ _ _ (by show b < w.heap.size; omega)
  have hmy : y ∈ l := by rw [← hy]; exact List.getElem_mem hkl
  have HSZ : Hid (∀ W, Below (w.heap.size + 1) (w.alloc (.cells #[.string nm, .int .i64 bd, .int .i64 (k : Int), .int .i64 va] 56)) W → Calls Tryz.prog 55 #[.agg #[.string y.s.name, .int .i64 y.s.kind, .int .i64 y.s.align, .slice y.a1 y.s.bytes.length y.c1, .int .i64 y.s.size, .slice y.a2 y.s.fixs.length y.c2]] W fun e w' => e = .returned (.int .i64 y.s.long) ∧ Below W.heap.size W w') := fun W hW => by
    have hb0 : Below w.heap.size w W := ((Below.refl _ _).alloc (Nat.le_refl _) _).trans (hW.mono (by omega))
    exact HSE.out W B y.s y.a1 y.c1 y.a2 y.c2 ((H1.out.bytes y hmy).below (hb0.mono hB)) ((H1.out.fixs y hmy).below (hb0.mono hB)) (Nat.le_trans hB hb0.size) (HL.out y hmy)
  have hmem : (l.map Sp.s)[((k : Nat) : Int).toNat]? = some y.s := by
    rw [Int.toNat_natCast, List.getElem?_map, List.getElem?_eq_getElem hkl, hy]; rfl
  rw [hmem] at HOK
  have hki : (k : Int) < (n : Int) := by omega
  obtain ⟨lg, hlg⟩ : ∃ x, y.s.long = x := ⟨_, rfl⟩
  have HG : Hid (ok = decide (0 ≤ va ∧ va ≤ lg)) := by
    show _ = _
    have e : decide (0 ≤ (k : Int) ∧ (k : Int) < n) = true := by simp; omega
    rw [HOK.out, e, ← hlg]; simp
  rw [hlg] at HSZ
  clear HOK H1 HL HN hkl hp hy hmem hlg hb hmy HSE
  by_cases v0 : va < 0
  · have HF : Hid (ok = false) := by show _ = _; rw [HG.out]; simp; omega
    clear HG
    go_enter Tryz.func79, Tryz.ntmps79
    go_upto_region 10 with (go_at_call 80; refine (HNV.out _).mono ?_; rintro e w' ⟨rfl, rfl⟩)
    refine wp_region_seq (by kernel_rfl) (fun W => Below (w.heap.size + 1) (w.alloc (.cells #[.string nm, .int .i64 bd, .int .i64 (k : Int), .int .i64 va] 56)) W) (by kernel_rfl) (Below.refl _ _).drew ?_
    refine SeqV.step (.pointer (some ⟨w.heap.size, 3, none⟩)) (by rfl) (fun W hW => ?_) ?_
    · unfold Oper.wp
      simp [go_sem]
      try exact hW
    simp only [Act.put, List.setIfInBounds_toArray, List.set_cons_succ, List.set_cons_zero]
    refine SeqV.step (.int .i64 va) (by rfl) (fun W hW => ?_) ?_
    · have q3 := HQ3.out W hW; unfold Oper.wp
      simp [go_sem, *]
      try exact hW
    simp only [Act.put, List.setIfInBounds_toArray, List.set_cons_succ, List.set_cons_zero]
    refine SeqV.step (.bool false) (by rfl) (fun W hW => ?_) ?_
    · have q := v0; unfold Oper.wp
      simp [go_sem, *]
      try exact hW
    simp only [Act.put, List.setIfInBounds_toArray, List.set_cons_succ, List.set_cons_zero]
    refine SeqV.step (.bool false) (by rfl) (fun W hW => ?_) ?_
    · unfold Oper.wp
      simp [go_sem]
      try exact hW
    simp only [Act.put, List.setIfInBounds_toArray, List.set_cons_succ, List.set_cons_zero]
    refine SeqV.skip (by rfl) ?_
    simp only [Act.put, List.setIfInBounds_toArray, List.set_cons_succ, List.set_cons_zero]
    refine SeqV.skip (by rfl) ?_
    simp only [Act.put, List.setIfInBounds_toArray, List.set_cons_succ, List.set_cons_zero]
    refine SeqV.skip (by rfl) ?_
    simp only [Act.put, List.setIfInBounds_toArray, List.set_cons_succ, List.set_cons_zero]
    refine SeqV.skip (by rfl) ?_
    simp only [Act.put, List.setIfInBounds_toArray, List.set_cons_succ, List.set_cons_zero]
    refine SeqV.skip (by rfl) ?_
    simp only [Act.put, List.setIfInBounds_toArray, List.set_cons_succ, List.set_cons_zero]
    refine SeqV.skip (by rfl) ?_
    simp only [Act.put, List.setIfInBounds_toArray, List.set_cons_succ, List.set_cons_zero]
    refine SeqV.skip (by rfl) ?_
    simp only [Act.put, List.setIfInBounds_toArray, List.set_cons_succ, List.set_cons_zero]
    refine SeqV.skip (by rfl) ?_
    simp only [Act.put, List.setIfInBounds_toArray, List.set_cons_succ, List.set_cons_zero]
    refine SeqV.skip (by rfl) ?_
    simp only [Act.put, List.setIfInBounds_toArray, List.set_cons_succ, List.set_cons_zero]
    refine SeqV.step (.bool false) (by rfl) (fun W hW => ?_) ?_
    · unfold Oper.wp
      simp [go_sem]
      try exact hW
    simp only [Act.put, List.setIfInBounds_toArray, List.set_cons_succ, List.set_cons_zero]
    refine SeqV.step (.bool false) (by rfl) (fun W hW => ?_) ?_
    · unfold Oper.wp
      simp [go_sem]
      try exact hW
    simp only [Act.put, List.setIfInBounds_toArray, List.set_cons_succ, List.set_cons_zero]
    intro W hW
    go_wp2_with fail
    go_ret
    exact ⟨ret_bool HF.out.symm, ((Below.refl _ _).alloc (Nat.le_refl _) _).trans (hW.mono (by omega))⟩
  by_cases v1 : lg < va
  · have HF : Hid (ok = false) := by show _ = _; rw [HG.out]; simp; omega
    clear HG
    go_enter Tryz.func79, Tryz.ntmps79
    go_upto_region 10 with (go_at_call 80; refine (HNV.out _).mono ?_; rintro e w' ⟨rfl, rfl⟩)
    refine wp_region_seq (by kernel_rfl) (fun W => Below (w.heap.size + 1) (w.alloc (.cells #[.string nm, .int .i64 bd, .int .i64 (k : Int), .int .i64 va] 56)) W) (by kernel_rfl) (Below.refl _ _).drew ?_
    refine SeqV.step (.pointer (some ⟨w.heap.size, 3, none⟩)) (by rfl) (fun W hW => ?_) ?_
    · unfold Oper.wp
      simp [go_sem]
      try exact hW
    simp only [Act.put, List.setIfInBounds_toArray, List.set_cons_succ, List.set_cons_zero]
    refine SeqV.step (.int .i64 va) (by rfl) (fun W hW => ?_) ?_
    · have q3 := HQ3.out W hW; unfold Oper.wp
      simp [go_sem, *]
      try exact hW
    simp only [Act.put, List.setIfInBounds_toArray, List.set_cons_succ, List.set_cons_zero]
    refine SeqV.step (.bool true) (by rfl) (fun W hW => ?_) ?_
    · have q := v0; unfold Oper.wp
      simp [go_sem, *]
      try exact hW
    simp only [Act.put, List.setIfInBounds_toArray, List.set_cons_succ, List.set_cons_zero]
    refine SeqV.step (.bool true) (by rfl) (fun W hW => ?_) ?_
    · unfold Oper.wp
      simp [go_sem]
      try exact hW
    simp only [Act.put, List.setIfInBounds_toArray, List.set_cons_succ, List.set_cons_zero]
    refine SeqV.step (.pointer (some ⟨w.heap.size, 3, none⟩)) (by rfl) (fun W hW => ?_) ?_
    · unfold Oper.wp
      simp [go_sem]
      try exact hW
    simp only [Act.put, List.setIfInBounds_toArray, List.set_cons_succ, List.set_cons_zero]
    refine SeqV.step (.int .i64 va) (by rfl) (fun W hW => ?_) ?_
    · have q3 := HQ3.out W hW; unfold Oper.wp
      simp [go_sem, *]
      try exact hW
    simp only [Act.put, List.setIfInBounds_toArray, List.set_cons_succ, List.set_cons_zero]
    refine SeqV.step (.slice (some ⟨b, off, none⟩) n c) (by rfl) (fun W hW => ?_) ?_
    · unfold Oper.wp
      simp [go_sem]
      try exact hW
    simp only [Act.put, List.setIfInBounds_toArray, List.set_cons_succ, List.set_cons_zero]
    refine SeqV.step (.pointer (some ⟨w.heap.size, 2, none⟩)) (by rfl) (fun W hW => ?_) ?_
    · unfold Oper.wp
      simp [go_sem]
      try exact hW
    simp only [Act.put, List.setIfInBounds_toArray, List.set_cons_succ, List.set_cons_zero]
    refine SeqV.step (.int .i64 (k : Int)) (by rfl) (fun W hW => ?_) ?_
    · have q2 := HQ2.out W hW; unfold Oper.wp
      simp [go_sem, *]
      try exact hW
    simp only [Act.put, List.setIfInBounds_toArray, List.set_cons_succ, List.set_cons_zero]
    refine SeqV.step (.pointer (some ⟨b, off + k * 6, none⟩)) (by rfl) (fun W hW => ?_) ?_
    · have q := hki; unfold Oper.wp
      simp [go_sem, *]
      try exact hW
    simp only [Act.put, List.setIfInBounds_toArray, List.set_cons_succ, List.set_cons_zero]
    refine SeqV.step (.agg #[.string y.s.name, .int .i64 y.s.kind, .int .i64 y.s.align, .slice y.a1 y.s.bytes.length y.c1, .int .i64 y.s.size, .slice y.a2 y.s.fixs.length y.c2]) (by rfl) (fun W hW => ?_) ?_
    · obtain ⟨p0, p1, p2, p3, p4, p5⟩ := HP.out W hW; unfold Oper.wp
      simp [go_sem, *]
      try exact hW
    simp only [Act.put, List.setIfInBounds_toArray, List.set_cons_succ, List.set_cons_zero]
    refine SeqV.step (.int .i64 lg) (by rfl) (fun W hW => ?_) ?_
    · unfold Oper.wp
      simp [go_sem]
      refine (HSZ.out W hW).mono ?_; rintro e w' ⟨rfl, hb⟩; exact ⟨rfl, hW.trans (hb.mono (by have := hW.size; simpa using this))⟩
    simp only [Act.put, List.setIfInBounds_toArray, List.set_cons_succ, List.set_cons_zero]
    refine SeqV.step (.bool false) (by rfl) (fun W hW => ?_) ?_
    · have q := v1; unfold Oper.wp
      simp [go_sem, *]
      try exact hW
    simp only [Act.put, List.setIfInBounds_toArray, List.set_cons_succ, List.set_cons_zero]
    refine SeqV.step (.bool false) (by rfl) (fun W hW => ?_) ?_
    · unfold Oper.wp
      simp [go_sem]
      try exact hW
    simp only [Act.put, List.setIfInBounds_toArray, List.set_cons_succ, List.set_cons_zero]
    refine SeqV.step (.bool false) (by rfl) (fun W hW => ?_) ?_
    · unfold Oper.wp
      simp [go_sem]
      try exact hW
    simp only [Act.put, List.setIfInBounds_toArray, List.set_cons_succ, List.set_cons_zero]
    intro W hW
    go_wp2_with fail
    go_ret
    exact ⟨ret_bool HF.out.symm, ((Below.refl _ _).alloc (Nat.le_refl _) _).trans (hW.mono (by omega))⟩
  have HF : Hid (ok = true) := by show _ = _; rw [HG.out]; simp; omega
  clear HG
  go_enter Tryz.func79, Tryz.ntmps79
  go_upto_region 10 with (go_at_call 80; refine (HNV.out _).mono ?_; rintro e w' ⟨rfl, rfl⟩)
  refine wp_region_seq (by kernel_rfl) (fun W => Below (w.heap.size + 1) (w.alloc (.cells #[.string nm, .int .i64 bd, .int .i64 (k : Int), .int .i64 va] 56)) W) (by kernel_rfl) (Below.refl _ _).drew ?_
  refine SeqV.step (.pointer (some ⟨w.heap.size, 3, none⟩)) (by rfl) (fun W hW => ?_) ?_
  · unfold Oper.wp
    simp [go_sem]
    try exact hW
  simp only [Act.put, List.setIfInBounds_toArray, List.set_cons_succ, List.set_cons_zero]
  refine SeqV.step (.int .i64 va) (by rfl) (fun W hW => ?_) ?_
  · have q3 := HQ3.out W hW; unfold Oper.wp
    simp [go_sem, *]
    try exact hW
  simp only [Act.put, List.setIfInBounds_toArray, List.set_cons_succ, List.set_cons_zero]
  refine SeqV.step (.bool true) (by rfl) (fun W hW => ?_) ?_
  · have q := v0; unfold Oper.wp
    simp [go_sem, *]
    try exact hW
  simp only [Act.put, List.setIfInBounds_toArray, List.set_cons_succ, List.set_cons_zero]
  refine SeqV.step (.bool true) (by rfl) (fun W hW => ?_) ?_
  · unfold Oper.wp
    simp [go_sem]
    try exact hW
  simp only [Act.put, List.setIfInBounds_toArray, List.set_cons_succ, List.set_cons_zero]
  refine SeqV.step (.pointer (some ⟨w.heap.size, 3, none⟩)) (by rfl) (fun W hW => ?_) ?_
  · unfold Oper.wp
    simp [go_sem]
    try exact hW
  simp only [Act.put, List.setIfInBounds_toArray, List.set_cons_succ, List.set_cons_zero]
  refine SeqV.step (.int .i64 va) (by rfl) (fun W hW => ?_) ?_
  · have q3 := HQ3.out W hW; unfold Oper.wp
    simp [go_sem, *]
    try exact hW
  simp only [Act.put, List.setIfInBounds_toArray, List.set_cons_succ, List.set_cons_zero]
  refine SeqV.step (.slice (some ⟨b, off, none⟩) n c) (by rfl) (fun W hW => ?_) ?_
  · unfold Oper.wp
    simp [go_sem]
    try exact hW
  simp only [Act.put, List.setIfInBounds_toArray, List.set_cons_succ, List.set_cons_zero]
  refine SeqV.step (.pointer (some ⟨w.heap.size, 2, none⟩)) (by rfl) (fun W hW => ?_) ?_
  · unfold Oper.wp
    simp [go_sem]
    try exact hW
  simp only [Act.put, List.setIfInBounds_toArray, List.set_cons_succ, List.set_cons_zero]
  refine SeqV.step (.int .i64 (k : Int)) (by rfl) (fun W hW => ?_) ?_
  · have q2 := HQ2.out W hW; unfold Oper.wp
    simp [go_sem, *]
    try exact hW
  simp only [Act.put, List.setIfInBounds_toArray, List.set_cons_succ, List.set_cons_zero]
  refine SeqV.step (.pointer (some ⟨b, off + k * 6, none⟩)) (by rfl) (fun W hW => ?_) ?_
  · have q := hki; unfold Oper.wp
    simp [go_sem, *]
    try exact hW
  simp only [Act.put, List.setIfInBounds_toArray, List.set_cons_succ, List.set_cons_zero]
  refine SeqV.step (.agg #[.string y.s.name, .int .i64 y.s.kind, .int .i64 y.s.align, .slice y.a1 y.s.bytes.length y.c1, .int .i64 y.s.size, .slice y.a2 y.s.fixs.length y.c2]) (by rfl) (fun W hW => ?_) ?_
  · obtain ⟨p0, p1, p2, p3, p4, p5⟩ := HP.out W hW; unfold Oper.wp
    simp [go_sem, *]
    try exact hW
  simp only [Act.put, List.setIfInBounds_toArray, List.set_cons_succ, List.set_cons_zero]
  refine SeqV.step (.int .i64 lg) (by rfl) (fun W hW => ?_) ?_
  · unfold Oper.wp
    simp [go_sem]
    refine (HSZ.out W hW).mono ?_; rintro e w' ⟨rfl, hb⟩; exact ⟨rfl, hW.trans (hb.mono (by have := hW.size; simpa using this))⟩
  simp only [Act.put, List.setIfInBounds_toArray, List.set_cons_succ, List.set_cons_zero]
  refine SeqV.step (.bool true) (by rfl) (fun W hW => ?_) ?_
  · have q := v1; unfold Oper.wp
    simp [go_sem, *]
    try exact hW
  simp only [Act.put, List.setIfInBounds_toArray, List.set_cons_succ, List.set_cons_zero]
  refine SeqV.step (.bool true) (by rfl) (fun W hW => ?_) ?_
  · unfold Oper.wp
    simp [go_sem]
    try exact hW
  simp only [Act.put, List.setIfInBounds_toArray, List.set_cons_succ, List.set_cons_zero]
  refine SeqV.step (.bool true) (by rfl) (fun W hW => ?_) ?_
  · unfold Oper.wp
    simp [go_sem]
    try exact hW
  simp only [Act.put, List.setIfInBounds_toArray, List.set_cons_succ, List.set_cons_zero]
  intro W hW
  go_wp2_with fail
  go_ret
  exact ⟨ret_bool HF.out.symm, ((Below.refl _ _).alloc (Nat.le_refl _) _).trans (hW.mono (by omega))⟩
theorem wantSymbolValid : WantSymbolValid := fun w B m a c l h hB hlen hm hl => symbolValid_any wantSectionSize w B m a c l.length l rfl h hB hlen hm.name hl

end Go.Proofs.YtjafekjcncmjjaaGreat

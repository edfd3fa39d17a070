import Derived.Test.YtjcfjpoodahlfaaGreatDoorPut
import Derived.Test.YtjcfjpoodahlfaaGreatDoorGet
namespace Go.Proofs.YtjcfjpoodahlfaaGreatDoor
open Go.RowKit
structure Hd where
  sec : Int
  sym : Int
  fix : Int
  nam : Int
def Hd.agg (h : Hd) : Value := .agg #[.int .i64 h.sec, .int .i64 h.sym, .int .i64 h.fix, .int .i64 h.nam]
def hdOk (h : Hd) : Bool := decide (0 ≤ h.sec ∧ h.sec ≤ 8) && (decide (0 ≤ h.sym ∧ h.sym ≤ 12) && (decide (0 ≤ h.fix ∧ h.fix ≤ 48) && decide (1 ≤ h.nam ∧ h.nam ≤ 400)))
theorem hdOk_iff {h : Hd} : hdOk h = true ↔ (0 ≤ h.sec ∧ h.sec ≤ 8) ∧ (0 ≤ h.sym ∧ h.sym ≤ 12) ∧ (0 ≤ h.fix ∧ h.fix ≤ 48) ∧ 1 ≤ h.nam ∧ h.nam ≤ 400 := by
  unfold hdOk
  simp only [Bool.and_eq_true, decide_eq_true_eq]
theorem l1In_val (n lo hi : Int) (w : World) : Calls Tryz.prog 71 #[.int .i64 n, .int .i64 lo, .int .i64 hi] w fun e w' => e = .returned (.bool (decide (lo ≤ n ∧ n ≤ hi))) ∧ w = w' := by
  by_cases h1 : n < lo
  · rw [show decide (lo ≤ n ∧ n ≤ hi) = false by simp; omega]; exact l1In_low n lo hi h1 w
  by_cases h2 : hi < n
  · rw [show decide (lo ≤ n ∧ n ≤ hi) = false by simp; omega]; exact l1In_high n lo hi h2 w
  rw [show decide (lo ≤ n ∧ n ≤ hi) = true by simp; omega]; exact l1In_yes n lo hi (by omega) (by omega) w
set_option maxHeartbeats 1000000 in
theorem headerValid'_any (w : World) (h : Hd) : Calls Tryz.prog 70 #[h.agg] w fun e w' => e = .returned (.bool (hdOk h)) ∧ Below w.heap.size w w' := by
  obtain ⟨a, b, c, d⟩ := h
  obtain ⟨ok, hok⟩ : ∃ q, q = hdOk ⟨a, b, c, d⟩ := ⟨_, rfl⟩
  have HOK : Hid (ok = (decide (0 ≤ a ∧ a ≤ 8) && (decide (0 ≤ b ∧ b ≤ 12) && (decide (0 ≤ c ∧ c ≤ 48) && decide (1 ≤ d ∧ d ≤ 400))))) := hok
  rw [← hok]
  clear hok
  unfold Hd.agg
  have hB : Below w.heap.size w (w.alloc (.cells #[.int .i64 a, .int .i64 b, .int .i64 c, .int .i64 d] 60)) := (Below.refl _ _).alloc (Nat.le_refl _) _
  go_enter Tryz.func70, Tryz.ntmps70
  go_wp2_with fail
  refine (l1In_val a 0 8 _).mono ?_
  rintro e _ ⟨rfl, rfl⟩
  obtain ⟨x0, hx0⟩ : ∃ q, decide (0 ≤ a ∧ a ≤ 8) = q := ⟨_, rfl⟩
  rw [hx0] at HOK ⊢
  clear hx0
  rcases x0 with _ | _
  · have HF : Hid (ok = false) := by show _ = _; rw [HOK.out]; simp
    go_wp2_with fail
    go_ret
    exact ⟨ret_bool HF.out.symm, hB⟩
  go_wp2_with fail
  refine (l1In_val b 0 12 _).mono ?_
  rintro e _ ⟨rfl, rfl⟩
  obtain ⟨x1, hx1⟩ : ∃ q, decide (0 ≤ b ∧ b ≤ 12) = q := ⟨_, rfl⟩
  rw [hx1] at HOK ⊢
  clear hx1
  rcases x1 with _ | _
  · have HF : Hid (ok = false) := by show _ = _; rw [HOK.out]; simp
    go_wp2_with fail
    go_ret
    exact ⟨ret_bool HF.out.symm, hB⟩
  go_wp2_with fail
  refine (l1In_val c 0 48 _).mono ?_
  rintro e _ ⟨rfl, rfl⟩
  obtain ⟨x2, hx2⟩ : ∃ q, decide (0 ≤ c ∧ c ≤ 48) = q := ⟨_, rfl⟩
  rw [hx2] at HOK ⊢
  clear hx2
  rcases x2 with _ | _
  · have HF : Hid (ok = false) := by show _ = _; rw [HOK.out]; simp
    go_wp2_with fail
    go_ret
    exact ⟨ret_bool HF.out.symm, hB⟩
  go_wp2_with fail
  refine (l1In_val d 1 400 _).mono ?_
  rintro e _ ⟨rfl, rfl⟩
  obtain ⟨x3, hx3⟩ : ∃ q, decide (1 ≤ d ∧ d ≤ 400) = q := ⟨_, rfl⟩
  rw [hx3] at HOK ⊢
  clear hx3
  have HF : Hid (ok = x3) := by show _ = _; rw [HOK.out]; simp
  go_wp2_with fail
  go_ret
  exact ⟨ret_bool HF.out.symm, hB⟩
def putHd (h : Hd) : List Int := if hdOk h then [111, 98, 106, 1, h.sec, h.sym, h.fix, h.nam % 256, h.nam / 256, 0] else []
theorem putHd_wf (h : Hd) : ∀ x ∈ putHd h, (Lit.int .u8 x).wf = true := fun x hx => by
  unfold putHd at hx
  split at hx
  · rename_i hk
    obtain ⟨h1, h2, h3, h4⟩ := hdOk_iff.1 hk
    simp at hx
    rcases hx with rfl | rfl | rfl | rfl | rfl | rfl | rfl | rfl | rfl | rfl <;> exact wf_u8.mpr ⟨by omega, by omega⟩
  · cases hx
set_option maxHeartbeats 1000000 in
theorem putHeader'_row (w : World) (h : Hd) : Calls Tryz.prog 34 #[h.agg] w fun e w' => ∃ v, e = .returned v ∧ v ≠ .slice none 0 0 ∧ w'.ownsRow w.heap.size 5 1 v (putHd h).length ((putHd h).map (Value.int .u8)) ∧ Below w.heap.size w w' := by
  obtain ⟨i0, hi, hz0, hz1, hz2⟩ := info_parts Tryz.info_u8
  obtain ⟨l, hl⟩ : ∃ l, putHd h = l := ⟨_, rfl⟩
  have HL := hidden hl
  have HV := hidden (fun W => headerValid'_any W h)
  rw [hl]
  obtain ⟨a, b, c, d⟩ := h
  unfold Hd.agg at *
  clear hl
  have hB : Below w.heap.size w (w.alloc (.cells #[.int .i64 a, .int .i64 b, .int .i64 c, .int .i64 d] 60)) := (Below.refl _ _).alloc (Nat.le_refl _) _
  have hx0 : Has (w.alloc (.cells #[.int .i64 a, .int .i64 b, .int .i64 c, .int .i64 d] 60)) w.heap.size 60 #[.int .i64 a, .int .i64 b, .int .i64 c, .int .i64 d] := Has.new _ _ _
  have hs0 : w.heap.size < (w.alloc (.cells #[.int .i64 a, .int .i64 b, .int .i64 c, .int .i64 d] 60)).heap.size := by simp
  obtain ⟨ok, hok⟩ : ∃ q, hdOk ⟨a, b, c, d⟩ = q := ⟨_, rfl⟩
  rw [hok] at HV
  have HOK := hidden hok
  clear hok
  go_enter Tryz.func34, Tryz.ntmps34
  go_wp2_with fail
  refine (HV.out _).mono ?_
  clear HV
  rintro e w2 ⟨rfl, hb2⟩
  have hB2 := hB.trans (hb2.mono hB.size)
  have HX2 := hidden (hx0.below hb2 hs0)
  have hs2 : w.heap.size < w2.heap.size := Nat.lt_of_lt_of_le hs0 hb2.size
  clear hx0 hb2 hB hs0
  rcases ok with _ | _
  · have HE : Hid ([] = l) := by show _ = _; rw [← HL.out]; unfold putHd; rw [HOK.out]; rfl
    clear HX2
    go_wp2_with fail
    go_ret
    subst HE
    exact ⟨_, rfl, by simp, World.ownsRow_lit (base := w.heap.size) (e := 5) (size := 1) w2 #[] 0 (by omega) (by unfold maxLen; omega) rfl, hB2.alloc hB2.size _⟩
  · obtain ⟨h1, h2, h3, h4⟩ : (0 ≤ a ∧ a ≤ 8) ∧ (0 ≤ b ∧ b ≤ 12) ∧ (0 ≤ c ∧ c ≤ 48) ∧ 1 ≤ d ∧ d ≤ 400 := hdOk_iff.1 HOK.out
    have HE : Hid (l = [111, 98, 106, 1, a, b, c, d % 256, d / 256, 0]) := by show _ = _; rw [← HL.out]; unfold putHd; rw [HOK.out]; rfl
    have q0 : w2.cell? ⟨w.heap.size, 0, none⟩ = some (.int .i64 a) := HX2.out.cell 0
    have q1 : w2.cell? ⟨w.heap.size, 1, none⟩ = some (.int .i64 b) := HX2.out.cell 1
    have q2 : w2.cell? ⟨w.heap.size, 2, none⟩ = some (.int .i64 c) := HX2.out.cell 2
    have HX3 := hidden (HX2.out.alloc (.cells #[.int .u8 111, .int .u8 98, .int .u8 106, .int .u8 1, .int .u8 a, .int .u8 b, .int .u8 c] 5))
    have q3 : (w2.alloc (.cells #[.int .u8 111, .int .u8 98, .int .u8 106, .int .u8 1, .int .u8 a, .int .u8 b, .int .u8 c] 5)).cell? ⟨w.heap.size, 3, none⟩ = some (.int .i64 d) := HX3.out.cell 3
    have hrow : Hid ((w2.alloc (.cells #[.int .u8 111, .int .u8 98, .int .u8 106, .int .u8 1, .int .u8 a, .int .u8 b, .int .u8 c] 5)).ownsRow w2.heap.size 5 1 (.slice (some ⟨w2.heap.size, 0, none⟩) 7 7) 7 [.int .u8 111, .int .u8 98, .int .u8 106, .int .u8 1, .int .u8 a, .int .u8 b, .int .u8 c]) :=
      World.ownsRow_lit (base := w2.heap.size) (e := 5) (size := 1) w2 #[.int .u8 111, .int .u8 98, .int .u8 106, .int .u8 1, .int .u8 a, .int .u8 b, .int .u8 c] 7 (Nat.le_refl _) (by decide) rfl
    have hB3 := hidden (hB2.alloc hB2.size (.cells #[.int .u8 111, .int .u8 98, .int .u8 106, .int .u8 1, .int .u8 a, .int .u8 b, .int .u8 c] 5))
    have hs3 : (w2.alloc (.cells #[.int .u8 111, .int .u8 98, .int .u8 106, .int .u8 1, .int .u8 a, .int .u8 b, .int .u8 c] 5)).heap.size = w2.heap.size + 1 := by simp
    have HPN := hidden (putNumber'_any d 2 (w2.alloc (.cells #[.int .u8 111, .int .u8 98, .int .u8 106, .int .u8 1, .int .u8 a, .int .u8 b, .int .u8 c] 5)))
    have hpl : putList d 2 = [d % 256, d / 256] := by rw [putList_yes (by omega) (by omega) (by omega) (by show d < 65536; omega)]; exact bytesOf_2 d (by omega) (by omega)
    rw [hpl] at HPN
    clear hpl
    clear hB2
    go_wp2_with fail
    refine HPN.out.mono ?_
    clear HPN q0 q1 q2 q3
    rintro e w4 ⟨pa, pc, rfl, hp4, hb4⟩
    obtain ⟨pb, po, rfl, hpb, hpc⟩ := hp4.2 (by simp)
    have hB4 := hidden (hB3.out.trans (hb4.mono hB3.out.size))
    have hrow4 := hidden (hrow.out.kept (w' := w4) (row := none) ⟨hb4.os, hb4.tape, hb4.output, hb4.size, fun i hi _ => hb4.block i hi⟩ (.inr (by simp [Value.ownBlock])))
    have hs4 : w2.heap.size + 1 ≤ w4.heap.size := by have := hb4.size; omega
    have hcell : Hid (∀ j u, ([.int .u8 (d % 256), .int .u8 (d / 256)] : List Value)[j]? = some u → w4.cell? ((⟨pb, po, none⟩ : Addr).add j) = some u) := fun j u hu => by
      have e : (⟨pb, po, none⟩ : Addr).add j = ⟨pb, po + j, none⟩ := by unfold Addr.add; split <;> simp_all
      rw [e]
      match j, hu with
      | 0, hu => simp at hu; subst hu; have := hpc 0 (by simp); simpa using this
      | 1, hu => simp at hu; subst hu; have := hpc 1 (by simp); simpa using this
    clear hb4 hp4 hrow hB3 HX3 hpc hs3
    go_wp2_with (at_builtin; refine wpList_append_own _ rfl _ _ 22 rfl w2.heap.size 5 i0 (.int .u8 0) 1 1 Tryz.underlying22 hi hz0 hz1 hz2 rfl (by decide) _ _ _ rfl hrow4.out ⟨pb, po, none⟩ 2 pc [.int .u8 (d % 256), .int .u8 (d / 256)] rfl rfl hcell.out (by intro u hu; simp at hu; rcases hu with rfl | rfl <;> rfl) (by decide) (by decide) (by omega) ?_)
    intro v5 w5 hown5 hg5 _
    have hB5 := hidden (hB4.out.grown hg5 (by omega) (fun q hq => by have := (hrow4.out.lt q hq).1; omega))
    have hrow5 := hidden (hown5.alloc (.cells #[.int .u8 0] 5))
    have hs5 : w2.heap.size + 1 ≤ w5.heap.size := Nat.le_trans hs4 hg5.size
    have hv5 : ∀ q, v5.ownBlock = some q → w2.heap.size ≤ q := fun q hq => (hown5.lt q hq).1
    clear hown5 hg5 hrow4 hB4 hcell
    go_wp2_with (at_builtin; refine wpList_append_own _ rfl _ _ 22 rfl w2.heap.size 5 i0 (.int .u8 0) 1 1 Tryz.underlying22 hi hz0 hz1 hz2 rfl (by decide) _ _ _ rfl hrow5.out ⟨w5.heap.size, 0, none⟩ 1 1 [.int .u8 0] rfl rfl (fun t u ht => by
        match t, ht with
        | 0, ht => simp at ht; subst ht; simp [Addr.add]) (by intro u hu; simp at hu; subst hu; rfl) (by decide) (by decide) (by simp; omega) ?_)
    intro v6 w6 hown6 hg6 _
    have hB6 := hidden ((hB5.out.alloc hB5.out.size _).grown hg6 (by simp; omega) (fun q hq => by have := hv5 q hq; omega))
    have hown7 : w6.ownsRow w2.heap.size 5 1 v6 l.length (l.map (Value.int .u8)) := by rw [HE.out]; simpa using hown6
    have hn6 : v6 ≠ .slice none 0 0 := by
      intro e
      rcases hown7.2 with ⟨_, h0⟩ | ⟨q, c, cur, e2, _⟩
      · rw [HE.out] at h0; cases h0
      · rw [e] at e2; injection e2 with e2; cases e2
    have hrow7 : Hid (w6.ownsRow w.heap.size 5 1 v6 l.length (l.map (Value.int .u8))) := ⟨hown7.1, hown7.2.imp id fun ⟨g, cap, cur, h1, h2, h3⟩ => ⟨g, cap, cur, h1, Nat.le_trans (Nat.le_of_lt hs2) h2, h3⟩⟩
    have HN6 := hidden hn6
    clear hown6 hg6 hown7 hB5 hrow5 hn6
    go_wp2
    go_ret
    exact ⟨v6, rfl, HN6.out, hrow7.out, hB6.out⟩

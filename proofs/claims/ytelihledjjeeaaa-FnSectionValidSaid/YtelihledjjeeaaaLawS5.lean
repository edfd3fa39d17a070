/-
  The walk of FnSectionValid, over what is wanted of the program.
-/
import Derived.Test.YtelihledjjeeaaaLawS3
namespace Go.Proofs.Ytelihledjjeeaaa
open Go.RowKit

theorem sectOk_kind4 (s : Sx) (many : Int) : sectOk { s with kind := 4 } many = false := by
  unfold sectOk
  simp
theorem sectOk_plain {s : Sx} {many : Int} (h : sectOk s many = true) : sectOk { s with fixs := [] } 0 = true := by
  unfold sectOk at h ⊢
  simp only [Bool.and_eq_true] at h ⊢
  obtain ⟨⟨⟨⟨⟨⟨h1, h2⟩, h3⟩, h4⟩, h5⟩, h6⟩, h7⟩ := h
  refine ⟨⟨⟨⟨⟨⟨h1, h2⟩, h3⟩, h4⟩, by simp⟩, h6⟩, ?_⟩
  by_cases hk : s.kind = 3
  · rw [if_pos hk] at h7 ⊢
    simp only [Bool.and_eq_true] at h7 ⊢
    exact ⟨h7.1, by simp⟩
  · rw [if_neg hk] at h7 ⊢
    simp only [Bool.and_eq_true] at h7 ⊢
    exact ⟨by simp [fixsOk], h7.2⟩
set_option maxHeartbeats 1000000 in
theorem law_SectionValid (hW : WantSectionValid) (w : World) (a0 : Option Addr) (len cap : Nat) (h : Came w a0 len cap) :
    Calls Try.prog 5 #[.slice a0 len cap] w fun e w' => e = .returned (.bool true) ∧ Below w.heap.size w w' := by
  obtain ⟨l0, h, rfl, hcap, hmax⟩ := h
  by_cases hbig : 1048576 < l0.length
  · have hd : (1048576 : Int) < (l0.length : Int) := by omega
    go_enter Try.func5, Try.ntmps5
    go_wp2
    go_ret
    exact ⟨rfl, Below.refl _ _⟩
  have hd : ¬ (1048576 : Int) < (l0.length : Int) := by omega
  have HD := hidden (drawSectionValid_any w a0 cap l0 h hcap hmax)
  have HW := hidden hW
  clear h hW
  go_enter Try.func5, Try.ntmps5
  go_wp2_with fail
  refine HD.out.mono ?_
  clear HD
  rintro e w1 ⟨s, a1, c1, a2, c2, many, he, hs, m0, m1, hi1, hi2, hb1⟩
  have hf := hs.fits
  have HIM : Hid (∀ W, Below w1.heap.size w1 W → Calls Try.prog 17 #[s.agg a1 c1 a2 c2, .int .i64 many] W fun e w' => e = .returned (.bool (sectOk s many)) ∧ Below W.heap.size W w') := fun W hB => HW.out W w1.heap.size s many a1 c1 a2 c2 (hi1.below hB) (hi2.below hB) hB.size hf ⟨by omega, by omega⟩
  have HSP : Hid (∀ W, Below w1.heap.size w1 W → Calls Try.prog 18 #[s.agg a1 c1 a2 c2, .int .i64 many] W fun e w' => e = .returned (.bool (sectOk s many)) ∧ Below W.heap.size W w') := fun W hB => sectionValid'_any W w1.heap.size s many a1 c1 a2 c2 (hi2.below hB) hB.size hf.name hf.bytes hf.count
  have HBAD : Hid (∀ W, Below w1.heap.size w1 W → Calls Try.prog 17 #[({ s with kind := 4 } : Sx).agg a1 c1 a2 c2, .int .i64 many] W fun e w' => e = .returned (.bool false) ∧ Below W.heap.size W w') := fun W hB => by
    have := HW.out W w1.heap.size { s with kind := 4 } many a1 c1 a2 c2 (hi1.below hB) (hi2.below hB) hB.size ⟨hf.name, ⟨by show _ ≤ (4 : Int); omega, by show (4 : Int) ≤ _; omega⟩, hf.align, hf.size, hf.bytes, hf.count, hf.fixs⟩ ⟨by omega, by omega⟩
    rwa [sectOk_kind4] at this
  have HPL : Hid (sectOk s many = true → ∀ W, Below w1.heap.size w1 W → Calls Try.prog 17 #[({ s with fixs := [] } : Sx).agg a1 c1 none 0, .int .i64 0] W fun e w' => e = .returned (.bool true) ∧ Below W.heap.size W w') := fun hok W hB => by
    have := HW.out W w1.heap.size { s with fixs := [] } 0 a1 c1 none 0 (hi1.below hB) Fixs.nil hB.size ⟨hf.name, hf.kind, hf.align, hf.size, hf.bytes, by simp, by simp⟩ ⟨by omega, by omega⟩
    rwa [sectOk_plain hok] at this
  obtain ⟨ok, hok⟩ : ∃ r, sectOk s many = r := ⟨_, rfl⟩
  rw [hok] at HIM HSP HPL
  obtain ⟨nm, kind, al, bs, sz, fs⟩ := s
  unfold Sx.agg at he HIM HSP HBAD HPL
  simp only at he HIM HSP HBAD HPL
  obtain ⟨nb, hnb⟩ : ∃ n, n = bs.length := ⟨_, rfl⟩
  obtain ⟨nf, hnf⟩ : ∃ n, n = fs.length := ⟨_, rfl⟩
  rw [← hnb] at he HIM HSP HBAD HPL
  rw [← hnf] at he HIM HSP HBAD
  clear hf hs hi1 hi2 HW hnb hnf hok
  subst he
  have hx0 : Has (w1.alloc (.cells #[.string nm, .int .i64 kind, .int .i64 al, .slice a1 nb c1, .int .i64 sz, .slice a2 nf c2] 29)) w1.heap.size 29 #[.string nm, .int .i64 kind, .int .i64 al, .slice a1 nb c1, .int .i64 sz, .slice a2 nf c2] := Has.new _ _ _
  have hbA : Below w1.heap.size w1 (w1.alloc (.cells #[.string nm, .int .i64 kind, .int .i64 al, .slice a1 nb c1, .int .i64 sz, .slice a2 nf c2] 29)) := (Below.refl _ _).alloc (Nat.le_refl _) _
  have hB0 : Below w.heap.size w (w1.alloc (.cells #[.string nm, .int .i64 kind, .int .i64 al, .slice a1 nb c1, .int .i64 sz, .slice a2 nf c2] 29)) := hb1.alloc hb1.size _
  go_wp2_with fail
  refine (HIM.out _ hbA).mono ?_
  clear HIM
  rintro e w2 ⟨rfl, hb2⟩
  have hB2 := hB0.trans (hb2.mono hB0.size)
  have hC2 := hbA.trans (hb2.mono hbA.size)
  have hx2 := hx0.below hb2 hx0.lt
  have x0 : w2.cell? ⟨w1.heap.size, 0, none⟩ = some (.string nm) := hx2.cell 0
  have x1 : w2.cell? ⟨w1.heap.size, 1, none⟩ = some (.int .i64 kind) := hx2.cell 1
  have x2 : w2.cell? ⟨w1.heap.size, 2, none⟩ = some (.int .i64 al) := hx2.cell 2
  have x3 : w2.cell? ⟨w1.heap.size, 3, none⟩ = some (.slice a1 nb c1) := hx2.cell 3
  have x4 : w2.cell? ⟨w1.heap.size, 4, none⟩ = some (.int .i64 sz) := hx2.cell 4
  have x5 : w2.cell? ⟨w1.heap.size, 5, none⟩ = some (.slice a2 nf c2) := hx2.cell 5
  have HX2 := hidden hx2
  clear hx0 hx2 hB0 hbA hb2 hb1
  go_wp2_with fail
  refine (HSP.out w2 hC2).mono ?_
  clear HSP x0 x1 x2 x3 x4 x5
  rintro e w3 ⟨rfl, hb3⟩
  have hB3 := hB2.trans (hb3.mono hB2.size)
  have hC3 := hC2.trans (hb3.mono hC2.size)
  have hx3 := HX2.out.below hb3 HX2.out.lt
  have x0 : w3.cell? ⟨w1.heap.size, 0, none⟩ = some (.string nm) := hx3.cell 0
  have x1 : w3.cell? ⟨w1.heap.size, 1, none⟩ = some (.int .i64 kind) := hx3.cell 1
  have x2 : w3.cell? ⟨w1.heap.size, 2, none⟩ = some (.int .i64 al) := hx3.cell 2
  have x3 : w3.cell? ⟨w1.heap.size, 3, none⟩ = some (.slice a1 nb c1) := hx3.cell 3
  have x4 : w3.cell? ⟨w1.heap.size, 4, none⟩ = some (.int .i64 sz) := hx3.cell 4
  have x5 : w3.cell? ⟨w1.heap.size, 5, none⟩ = some (.slice a2 nf c2) := hx3.cell 5
  have hx3b := hx3.alloc (.cells #[.string nm, .int .i64 4, .int .i64 al, .slice a1 nb c1, .int .i64 sz, .slice a2 nf c2] 29)
  have v0 : (w3.alloc (.cells #[.string nm, .int .i64 4, .int .i64 al, .slice a1 nb c1, .int .i64 sz, .slice a2 nf c2] 29)).cell? ⟨w1.heap.size, 0, none⟩ = some (.string nm) := hx3b.cell 0
  have v1 : (w3.alloc (.cells #[.string nm, .int .i64 4, .int .i64 al, .slice a1 nb c1, .int .i64 sz, .slice a2 nf c2] 29)).cell? ⟨w1.heap.size, 1, none⟩ = some (.int .i64 kind) := hx3b.cell 1
  have v2 : (w3.alloc (.cells #[.string nm, .int .i64 4, .int .i64 al, .slice a1 nb c1, .int .i64 sz, .slice a2 nf c2] 29)).cell? ⟨w1.heap.size, 2, none⟩ = some (.int .i64 al) := hx3b.cell 2
  have v3 : (w3.alloc (.cells #[.string nm, .int .i64 4, .int .i64 al, .slice a1 nb c1, .int .i64 sz, .slice a2 nf c2] 29)).cell? ⟨w1.heap.size, 3, none⟩ = some (.slice a1 nb c1) := hx3b.cell 3
  have v4 : (w3.alloc (.cells #[.string nm, .int .i64 4, .int .i64 al, .slice a1 nb c1, .int .i64 sz, .slice a2 nf c2] 29)).cell? ⟨w1.heap.size, 4, none⟩ = some (.int .i64 sz) := hx3b.cell 4
  have v5 : (w3.alloc (.cells #[.string nm, .int .i64 4, .int .i64 al, .slice a1 nb c1, .int .i64 sz, .slice a2 nf c2] 29)).cell? ⟨w1.heap.size, 5, none⟩ = some (.slice a2 nf c2) := hx3b.cell 5
  clear HX2 hb3 hB2 hC2 hx3b
  have hB5 : Below w.heap.size w ((w3.alloc (.cells #[.string nm, .int .i64 4, .int .i64 al, .slice a1 nb c1, .int .i64 sz, .slice a2 nf c2] 29)).alloc (.cells #[.string nm, .int .i64 kind, .int .i64 al, .slice a1 nb c1, .int .i64 sz, .slice none 0 0] 29)) := (hB3.alloc hB3.size _).alloc (Nat.le_trans hB3.size (by simp)) _
  have hC5 : Below w1.heap.size w1 ((w3.alloc (.cells #[.string nm, .int .i64 4, .int .i64 al, .slice a1 nb c1, .int .i64 sz, .slice a2 nf c2] 29)).alloc (.cells #[.string nm, .int .i64 kind, .int .i64 al, .slice a1 nb c1, .int .i64 sz, .slice none 0 0] 29)) := (hC3.alloc hC3.size _).alloc (Nat.le_trans hC3.size (by simp)) _
  have hbad : Has ((w3.alloc (.cells #[.string nm, .int .i64 4, .int .i64 al, .slice a1 nb c1, .int .i64 sz, .slice a2 nf c2] 29)).alloc (.cells #[.string nm, .int .i64 kind, .int .i64 al, .slice a1 nb c1, .int .i64 sz, .slice none 0 0] 29)) w3.heap.size 29 #[.string nm, .int .i64 4, .int .i64 al, .slice a1 nb c1, .int .i64 sz, .slice a2 nf c2] := (Has.new w3 _ _).alloc _
  have hpl : Has ((w3.alloc (.cells #[.string nm, .int .i64 4, .int .i64 al, .slice a1 nb c1, .int .i64 sz, .slice a2 nf c2] 29)).alloc (.cells #[.string nm, .int .i64 kind, .int .i64 al, .slice a1 nb c1, .int .i64 sz, .slice none 0 0] 29)) (w3.heap.size + 1) 29 #[.string nm, .int .i64 kind, .int .i64 al, .slice a1 nb c1, .int .i64 sz, .slice none 0 0] := by
    have := Has.new (w3.alloc (.cells #[.string nm, .int .i64 4, .int .i64 al, .slice a1 nb c1, .int .i64 sz, .slice a2 nf c2] 29)) 29 #[.string nm, .int .i64 kind, .int .i64 al, .slice a1 nb c1, .int .i64 sz, .slice none 0 0]
    simpa using this
  have q0 : ((w3.alloc (.cells #[.string nm, .int .i64 4, .int .i64 al, .slice a1 nb c1, .int .i64 sz, .slice a2 nf c2] 29)).alloc (.cells #[.string nm, .int .i64 kind, .int .i64 al, .slice a1 nb c1, .int .i64 sz, .slice none 0 0] 29)).cell? ⟨w3.heap.size, 0, none⟩ = some (.string nm) := hbad.cell 0
  have q1 : ((w3.alloc (.cells #[.string nm, .int .i64 4, .int .i64 al, .slice a1 nb c1, .int .i64 sz, .slice a2 nf c2] 29)).alloc (.cells #[.string nm, .int .i64 kind, .int .i64 al, .slice a1 nb c1, .int .i64 sz, .slice none 0 0] 29)).cell? ⟨w3.heap.size, 1, none⟩ = some (.int .i64 4) := hbad.cell 1
  have q2 : ((w3.alloc (.cells #[.string nm, .int .i64 4, .int .i64 al, .slice a1 nb c1, .int .i64 sz, .slice a2 nf c2] 29)).alloc (.cells #[.string nm, .int .i64 kind, .int .i64 al, .slice a1 nb c1, .int .i64 sz, .slice none 0 0] 29)).cell? ⟨w3.heap.size, 2, none⟩ = some (.int .i64 al) := hbad.cell 2
  have q3 : ((w3.alloc (.cells #[.string nm, .int .i64 4, .int .i64 al, .slice a1 nb c1, .int .i64 sz, .slice a2 nf c2] 29)).alloc (.cells #[.string nm, .int .i64 kind, .int .i64 al, .slice a1 nb c1, .int .i64 sz, .slice none 0 0] 29)).cell? ⟨w3.heap.size, 3, none⟩ = some (.slice a1 nb c1) := hbad.cell 3
  have q4 : ((w3.alloc (.cells #[.string nm, .int .i64 4, .int .i64 al, .slice a1 nb c1, .int .i64 sz, .slice a2 nf c2] 29)).alloc (.cells #[.string nm, .int .i64 kind, .int .i64 al, .slice a1 nb c1, .int .i64 sz, .slice none 0 0] 29)).cell? ⟨w3.heap.size, 4, none⟩ = some (.int .i64 sz) := hbad.cell 4
  have q5 : ((w3.alloc (.cells #[.string nm, .int .i64 4, .int .i64 al, .slice a1 nb c1, .int .i64 sz, .slice a2 nf c2] 29)).alloc (.cells #[.string nm, .int .i64 kind, .int .i64 al, .slice a1 nb c1, .int .i64 sz, .slice none 0 0] 29)).cell? ⟨w3.heap.size, 5, none⟩ = some (.slice a2 nf c2) := hbad.cell 5
  clear hbad
  go_wp2_with fail
  refine (HBAD.out _ hC5).mono ?_
  rintro e w6 ⟨rfl, hb6⟩
  have hB6 := hB5.trans (hb6.mono hB5.size)
  have hC6 := hC5.trans (hb6.mono hC5.size)
  have hp6 := hpl.below hb6 hpl.lt
  have p0 : w6.cell? ⟨w3.heap.size + 1, 0, none⟩ = some (.string nm) := hp6.cell 0
  have p1 : w6.cell? ⟨w3.heap.size + 1, 1, none⟩ = some (.int .i64 kind) := hp6.cell 1
  have p2 : w6.cell? ⟨w3.heap.size + 1, 2, none⟩ = some (.int .i64 al) := hp6.cell 2
  have p3 : w6.cell? ⟨w3.heap.size + 1, 3, none⟩ = some (.slice a1 nb c1) := hp6.cell 3
  have p4 : w6.cell? ⟨w3.heap.size + 1, 4, none⟩ = some (.int .i64 sz) := hp6.cell 4
  have p5 : w6.cell? ⟨w3.heap.size + 1, 5, none⟩ = some (.slice none 0 0) := hp6.cell 5
  clear HBAD hB5 hC5 hb6 hpl hp6 hx3 hB3 hC3 q0 q1 q2 q3 q4 q5 v0 v1 v2 v3 v4 v5 x0 x1 x2 x3 x4 x5
  rcases ok with _ | _
  · clear HPL
    go_wp2_with (go_at_call 12; refine (alive_any _).mono ?_; rintro e _ ⟨rfl, rfl⟩)
    go_ret
    exact ⟨rfl, hB6⟩
  · have HP := hidden (HPL.out rfl)
    clear HPL
    go_wp2_with fail
    refine (HP.out _ hC6).mono ?_
    rintro e w7 ⟨rfl, hb7⟩
    have hB7 := hB6.trans (hb7.mono hB6.size)
    clear HP hb7 hB6 hC6
    go_wp2_with (go_at_call 12; refine (alive_any _).mono ?_; rintro e _ ⟨rfl, rfl⟩)
    go_ret
    exact ⟨rfl, hB7⟩

end Go.Proofs.Ytelihledjjeeaaa

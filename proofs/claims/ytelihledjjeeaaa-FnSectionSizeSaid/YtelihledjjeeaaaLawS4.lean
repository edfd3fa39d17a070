/-
  The walk of FnSectionSize, over what is wanted of the program.
-/
import Derived.Test.YtelihledjjeeaaaLawS3
namespace Go.Proofs.Ytelihledjjeeaaa
open Go.RowKit

set_option maxHeartbeats 1000000 in
theorem law_SectionSize (hW : WantSectionSize) (w : World) (a0 : Option Addr) (len cap : Nat) (h : Came w a0 len cap) :
    Calls Try.prog 4 #[.slice a0 len cap] w fun e w' => e = .returned (.bool true) ∧ Below w.heap.size w w' := by
  obtain ⟨l0, h, rfl, hcap, hmax⟩ := h
  by_cases hbig : 1048576 < l0.length
  · have hd : (1048576 : Int) < (l0.length : Int) := by omega
    go_enter Try.func4, Try.ntmps4
    go_wp2
    go_ret
    exact ⟨rfl, Below.refl _ _⟩
  have hd : ¬ (1048576 : Int) < (l0.length : Int) := by omega
  have HD := hidden (drawSectionSize_any w a0 cap l0 h hcap hmax)
  have HW := hidden hW
  clear h hW
  go_enter Try.func4, Try.ntmps4
  go_wp2_with fail
  refine HD.out.mono ?_
  clear HD
  rintro e w1 ⟨s, a1, c1, a2, c2, he, hs, hi1, hi2, hb1⟩
  have hf := hs.fits
  have HIM : Hid (∀ W, Below w1.heap.size w1 W → Calls Try.prog 14 #[s.agg a1 c1 a2 c2] W fun e w' => e = .returned (.int .i64 s.long) ∧ Below W.heap.size W w') := fun W hB => HW.out W w1.heap.size s a1 c1 a2 c2 (hi1.below hB) (hi2.below hB) hB.size hf
  have HSP : Hid (∀ W, Calls Try.prog 15 #[s.agg a1 c1 a2 c2] W fun e w' => e = .returned (.int .i64 s.long) ∧ Below W.heap.size W w') := fun W => sectionSize'_any W s a1 c1 a2 c2 hf.bytes
  obtain ⟨rs, hres⟩ : ∃ r, s.long = r := ⟨_, rfl⟩
  rw [hres] at HIM HSP
  obtain ⟨nm, kind, al, bs, sz, fs⟩ := s
  unfold Sx.agg at he HIM HSP
  unfold Sx.long at hres
  simp only at he HIM HSP hres
  obtain ⟨nb, hnb⟩ : ∃ n, n = bs.length := ⟨_, rfl⟩
  obtain ⟨nf, hnf⟩ : ∃ n, n = fs.length := ⟨_, rfl⟩
  rw [← hnb] at he HIM HSP hres
  rw [← hnf] at he HIM HSP
  have HR := hidden hres
  clear hf hs hi1 hi2 HW hnb hnf hres
  subst he
  have hx0 : Has (w1.alloc (.cells #[.string nm, .int .i64 kind, .int .i64 al, .slice a1 nb c1, .int .i64 sz, .slice a2 nf c2] 29)) w1.heap.size 29 #[.string nm, .int .i64 kind, .int .i64 al, .slice a1 nb c1, .int .i64 sz, .slice a2 nf c2] := Has.new _ _ _
  have hbA : Below w1.heap.size w1 (w1.alloc (.cells #[.string nm, .int .i64 kind, .int .i64 al, .slice a1 nb c1, .int .i64 sz, .slice a2 nf c2] 29)) := (Below.refl _ _).alloc (Nat.le_refl _) _
  have hB0 : Below w.heap.size w (w1.alloc (.cells #[.string nm, .int .i64 kind, .int .i64 al, .slice a1 nb c1, .int .i64 sz, .slice a2 nf c2] 29)) := hb1.alloc hb1.size _
  go_wp2_with fail
  refine (HIM.out _ hbA).mono ?_
  clear HIM
  rintro e w2 ⟨rfl, hb2⟩
  have hB2 := hB0.trans (hb2.mono hB0.size)
  have hx2 := hx0.below hb2 hx0.lt
  have x0 : w2.cell? ⟨w1.heap.size, 0, none⟩ = some (.string nm) := hx2.cell 0
  have x1 : w2.cell? ⟨w1.heap.size, 1, none⟩ = some (.int .i64 kind) := hx2.cell 1
  have x2 : w2.cell? ⟨w1.heap.size, 2, none⟩ = some (.int .i64 al) := hx2.cell 2
  have x3 : w2.cell? ⟨w1.heap.size, 3, none⟩ = some (.slice a1 nb c1) := hx2.cell 3
  have x4 : w2.cell? ⟨w1.heap.size, 4, none⟩ = some (.int .i64 sz) := hx2.cell 4
  have x5 : w2.cell? ⟨w1.heap.size, 5, none⟩ = some (.slice a2 nf c2) := hx2.cell 5
  have HX2 := hidden hx2
  clear hx0 hx2 hB0 hbA hb2 hb1
  go_wp2_with fail
  refine (HSP.out w2).mono ?_
  clear HSP x0 x1 x2 x3 x4 x5
  rintro e w3 ⟨rfl, hb3⟩
  have hB3 := hB2.trans (hb3.mono hB2.size)
  have hx3 := HX2.out.below hb3 HX2.out.lt
  have x0 : w3.cell? ⟨w1.heap.size, 0, none⟩ = some (.string nm) := hx3.cell 0
  have x1 : w3.cell? ⟨w1.heap.size, 1, none⟩ = some (.int .i64 kind) := hx3.cell 1
  have x2 : w3.cell? ⟨w1.heap.size, 2, none⟩ = some (.int .i64 al) := hx3.cell 2
  have x3 : w3.cell? ⟨w1.heap.size, 3, none⟩ = some (.slice a1 nb c1) := hx3.cell 3
  have x4 : w3.cell? ⟨w1.heap.size, 4, none⟩ = some (.int .i64 sz) := hx3.cell 4
  have x5 : w3.cell? ⟨w1.heap.size, 5, none⟩ = some (.slice a2 nf c2) := hx3.cell 5
  clear hx3 HX2 hb3 hB2
  by_cases hk : kind = 3
  · have hrs : rs = sz := by rw [← HR.out, if_pos hk]
    subst hrs
    have hk' : (kind == 3) = true := by simp [hk]
    clear HR hk
    go_wp2_with (go_at_call 12; refine (alive_any _).mono ?_; rintro e _ ⟨rfl, rfl⟩)
    go_ret
    exact ⟨rfl, hB3⟩
  · have hrs : rs = (nb : Int) := by rw [← HR.out, if_neg hk]
    subst hrs
    have hk' : (kind == 3) = false := by simpa using hk
    clear HR hk
    go_wp2_with fail
    go_ret
    exact ⟨rfl, hB3⟩

end Go.Proofs.Ytelihledjjeeaaa

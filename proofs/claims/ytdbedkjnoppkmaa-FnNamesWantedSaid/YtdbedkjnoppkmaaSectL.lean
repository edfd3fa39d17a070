/-
  The laws' own functions on sections: their sizes, copies, comparisons. laws.eqSection: equal sections are found equal.
-/
import Derived.Test.YtdbedkjnoppkmaaSect
import Derived.Test.YtdbedkjnoppkmaaBase
/- The laws' own functions on sections: their sizes, copies, comparisons. -/
namespace Go.Proofs.Ytdbedkjnoppkmaa
open Go.RowKit

/-- What is left of a number, less so many. -/
def leftOf (left : Int) (n : Nat) : Int := if left < n then -1 else left - n
theorem szByteS_any (w : World) (a : Option Addr) (c n : Nat) (left : Int) (h0 : 0 ≤ left) (h1 : left ≤ 1048576) (hn : n ≤ 9223372036854775807) :
    Calls Try.prog 72 #[.slice a n c, .int .i64 left] w fun e w' => e = .returned (.int .i64 (leftOf left n)) ∧ w = w' := by
  unfold leftOf
  by_cases h : left < n
  · rw [if_pos h]
    have h' : left - (n : Int) < 0 := by omega
    go_enter Try.func72, Try.ntmps72
    go_wp2
    go_ret
    exact ⟨rfl, rfl⟩
  · rw [if_neg h]
    have h' : ¬ left - (n : Int) < 0 := by omega
    go_enter Try.func72, Try.ntmps72
    go_wp2
    go_ret
    exact ⟨rfl, rfl⟩
theorem szFixupS_any (w : World) (a : Option Addr) (c n : Nat) (left : Int) (h0 : 0 ≤ left) (h1 : left ≤ 1048576) (hn : n ≤ 9223372036854775807) :
    Calls Try.prog 73 #[.slice a n c, .int .i64 left] w fun e w' => e = .returned (.int .i64 (leftOf left n)) ∧ w = w' := by
  unfold leftOf
  by_cases h : left < n
  · rw [if_pos h]
    have h' : left - (n : Int) < 0 := by omega
    go_enter Try.func73, Try.ntmps73
    go_wp2
    go_ret
    exact ⟨rfl, rfl⟩
  · rw [if_neg h]
    have h' : ¬ left - (n : Int) < 0 := by omega
    go_enter Try.func73, Try.ntmps73
    go_wp2
    go_ret
    exact ⟨rfl, rfl⟩
/-- What szSection answers: -1, or a number that tells that nothing is long. -/
def SizedX (w : World) (s : Sx) (e : Ending) (w' : World) : Prop :=
  ∃ r : Int, e = .returned (.int .i64 r) ∧ Below w.heap.size w w' ∧ -1 ≤ r ∧ r ≤ 1048576 ∧ (0 ≤ r → s.name.size ≤ 1048576 ∧ s.bytes.length ≤ 1048576 ∧ s.fixs.length ≤ 1048576)
set_option maxHeartbeats 1000000 in
theorem szSection_any (w : World) (s : Sx) (a1 : Option Addr) (c1 : Nat) (a2 : Option Addr) (c2 : Nat) (hn : s.name.size ≤ maxLen) (hl1 : s.bytes.length ≤ 9223372036854775807) (hl2 : s.fixs.length ≤ 9223372036854775807) :
    Calls Try.prog 52 #[s.agg a1 c1 a2 c2, .int .i64 1048576] w (SizedX w s) := by
  obtain ⟨nm, kind, al, bs, sz, fs⟩ := s
  unfold Sx.agg SizedX
  simp only at hn hl1 hl2 ⊢
  unfold maxLen at hn
  generalize bs.length = nb at hl1 ⊢
  generalize fs.length = nf at hl2 ⊢
  by_cases h1 : (1048576 : Int) - (nm.size : Int) < 0
  · go_enter Try.func52, Try.ntmps52
    go_wp2_with fail
    go_ret
    exact ⟨-1, rfl, (Below.refl _ _).alloc (Nat.le_refl _) _, by omega, by omega, by omega⟩
  have H1 := hidden (fun W => szByteS_any W a1 c1 nb (1048576 - nm.size) (by omega) (by omega) hl1)
  by_cases h2 : (1048576 : Int) - nm.size < nb
  · have e : leftOf (1048576 - nm.size) nb = -1 := if_pos h2
    rw [e] at H1
    clear e h2
    go_enter Try.func52, Try.ntmps52
    go_wp2_with (go_at_call 72; refine (H1.out _).mono ?_; rintro e w' ⟨rfl, rfl⟩)
    go_ret
    exact ⟨-1, rfl, (Below.refl _ _).alloc (Nat.le_refl _) _, by omega, by omega, by omega⟩
  have e : leftOf (1048576 - nm.size) nb = 1048576 - nm.size - nb := if_neg h2
  rw [e] at H1
  clear e
  obtain ⟨l2, hl⟩ : ∃ l2 : Int, 1048576 - (nm.size : Int) - nb = l2 := ⟨_, rfl⟩
  rw [hl] at H1
  have g2 : ¬ l2 < 0 := by omega
  have H2 := hidden (fun W => szFixupS_any W a2 c2 nf l2 (by omega) (by omega) hl2)
  have HL := hidden hl
  clear hl
  by_cases h3 : l2 < nf
  · have e : leftOf l2 nf = -1 := if_pos h3
    rw [e] at H2
    clear e h3 h2
    go_enter Try.func52, Try.ntmps52
    go_wp2_with (first | (go_at_call 72; refine (H1.out _).mono ?_; rintro e w' ⟨rfl, rfl⟩) | (go_at_call 73; refine (H2.out _).mono ?_; rintro e w' ⟨rfl, rfl⟩))
    go_ret
    exact ⟨-1, rfl, (Below.refl _ _).alloc (Nat.le_refl _) _, by omega, by omega, by omega⟩
  · have e : leftOf l2 nf = l2 - nf := if_neg h3
    rw [e] at H2
    clear e
    obtain ⟨l3, hl3⟩ : ∃ l3 : Int, l2 - nf = l3 := ⟨_, rfl⟩
    rw [hl3] at H2
    have g3 : ¬ l3 < 0 := by omega
    have HL3 := hidden hl3
    clear hl3 h2 h3
    go_enter Try.func52, Try.ntmps52
    go_wp2_with (first | (go_at_call 72; refine (H1.out _).mono ?_; rintro e w' ⟨rfl, rfl⟩) | (go_at_call 73; refine (H2.out _).mono ?_; rintro e w' ⟨rfl, rfl⟩))
    go_ret
    have q1 := HL.out
    have q2 := HL3.out
    exact ⟨l3, rfl, (Below.refl _ _).alloc (Nat.le_refl _) _, by omega, by omega, fun _ => by omega⟩
/-- A section's value, and what it leads to. -/
def SectV (w : World) (B : Nat) (s : Sx) (v : Value) : Prop :=
  ∃ a1 c1 a2 c2, v = s.agg a1 c1 a2 c2 ∧ Ints w .u8 B a1 s.bytes ∧ Fixs w B a2 s.fixs
theorem ints_wf_bytes {w : World} {B : Nat} {a : Option Addr} {l : List Int} (h : Ints w .u8 B a l) : ∀ x ∈ l, (Lit.int .u8 x).wf = true := h.1
set_option maxHeartbeats 1000000 in
theorem toSection_far (w : World) (B : Nat) (s : Sx) (a1 : Option Addr) (c1 : Nat) (a2 : Option Addr) (c2 : Nat) (h1 : Ints w .u8 B a1 s.bytes) (h2 : Fixs w B a2 s.fixs) (hB : B ≤ w.heap.size) (hl1 : s.bytes.length ≤ 1048576) (hl2 : s.fixs.length ≤ 1048576) :
    Calls Try.prog 53 #[s.agg a1 c1 a2 c2] w fun e w' => ∃ b1 b2 n1 n2, e = .returned (s.agg (some ⟨b1, 0, none⟩) n1 (some ⟨b2, 0, none⟩) n2) ∧ Ints w' .u8 w'.heap.size (some ⟨b1, 0, none⟩) s.bytes ∧ Fixs w' w'.heap.size (some ⟨b2, 0, none⟩) s.fixs ∧ Below w.heap.size w w' ∧ w.heap.size < b1 ∧ w.heap.size < b2 ∧ Has w' b1 5 (s.bytes.map (Value.int .u8)).toArray ∧ (∃ cs, Has w' b2 94 cs ∧ cs.size = s.fixs.length * 4) := by
  obtain ⟨nm, kind, al, bs, sz, fs⟩ := s
  unfold Sx.agg
  simp only at h1 h2 hl1 hl2 ⊢
  have HT1 := hidden (fun (W : World) (hW : Below w.heap.size w W) => toByteS_any W B a1 c1 bs (h1.below (hW.mono hB)) (Nat.le_trans hB hW.size) (by omega))
  have H2 := hidden (fun (W : World) (hW : Below w.heap.size w W) => h2.below (hW.mono hB))
  have HWF := hidden h1.1
  obtain ⟨nb, hnb⟩ : ∃ n, n = bs.length := ⟨_, rfl⟩
  obtain ⟨nf, hnf⟩ : ∃ n, n = fs.length := ⟨_, rfl⟩
  rw [← hnb] at HT1 hl1 ⊢
  rw [← hnf] at hl2 ⊢
  have HNF := hidden hnf
  clear h1 h2 hnb hnf
  go_enter Try.func53, Try.ntmps53
  go_wp2_with fail
  refine (HT1.out _ ((((Below.refl _ _).alloc (Nat.le_refl _) _).alloc (by simp) _).alloc (by simp; omega) _)).mono ?_
  clear HT1
  rintro e w3 ⟨rfl, hh3, hb3⟩
  have hsz : (((w.alloc (.cells #[.string nm, .int .i64 kind, .int .i64 al, .slice a1 nb c1, .int .i64 sz, .slice a2 nf c2] 79)).alloc (.cells #[.string ⟨#[]⟩, .int .i64 0, .int .i64 0, .slice none 0 0, .int .i64 0, .slice none 0 0] 61)).alloc (.cells #[.string nm, .int .i64 kind, .int .i64 al, .slice none 0 0, .int .i64 0, .slice none 0 0] 61)).heap.size = w.heap.size + 3 := by simp
  have hasA : Has w3 (w.heap.size) 79 #[.string nm, .int .i64 kind, .int .i64 al, .slice a1 nb c1, .int .i64 sz, .slice a2 nf c2] := (((Has.new w _ _).alloc _).alloc _).below hb3 (by rw [hsz]; omega)
  have hasB : Has w3 (w.heap.size + 1) 61 #[.string ⟨#[]⟩, .int .i64 0, .int .i64 0, .slice none 0 0, .int .i64 0, .slice none 0 0] := by
    have h := ((Has.new (w.alloc (.cells #[.string nm, .int .i64 kind, .int .i64 al, .slice a1 nb c1, .int .i64 sz, .slice a2 nf c2] 79)) 61 #[.string ⟨#[]⟩, .int .i64 0, .int .i64 0, .slice none 0 0, .int .i64 0, .slice none 0 0]).alloc (.cells #[.string nm, .int .i64 kind, .int .i64 al, .slice none 0 0, .int .i64 0, .slice none 0 0] 61)).below hb3 (by rw [hsz]; simp)
    simpa using h
  have hasC : Has w3 (w.heap.size + 1 + 1) 61 #[.string nm, .int .i64 kind, .int .i64 al, .slice none 0 0, .int .i64 0, .slice none 0 0] := by
    have h := (Has.new ((w.alloc (.cells #[.string nm, .int .i64 kind, .int .i64 al, .slice a1 nb c1, .int .i64 sz, .slice a2 nf c2] 79)).alloc (.cells #[.string ⟨#[]⟩, .int .i64 0, .int .i64 0, .slice none 0 0, .int .i64 0, .slice none 0 0] 61)) 61 #[.string nm, .int .i64 kind, .int .i64 al, .slice none 0 0, .int .i64 0, .slice none 0 0]).below hb3 (by rw [hsz]; simp)
    simpa using h
  have hb03 : Below w.heap.size w w3 := ((((Below.refl _ _).alloc (Nat.le_refl _) _).alloc (by simp) _).alloc (by simp; omega) _).trans (hb3.mono (by rw [hsz]; omega))
  rw [hsz] at hh3 hb3 ⊢
  obtain ⟨g1, hg1⟩ : ∃ g, w.heap.size + 3 = g := ⟨_, rfl⟩
  rw [hg1] at hh3 hb3 ⊢
  have G1 : Hid (w.heap.size + 3 = g1) := hg1
  clear hg1 hsz
  have x4 : w3.cell? ⟨w.heap.size, 4, none⟩ = some (.int .i64 sz) := hasA.cell 4
  have x5 : w3.cell? ⟨w.heap.size, 5, none⟩ = some (.slice a2 nf c2) := hasA.cell 5
  have c3 : w3.cell? ⟨w.heap.size + 1 + 1, 3, none⟩ = some (.slice none 0 0) := hasC.cell 3
  have c4 : w3.cell? ⟨w.heap.size + 1 + 1, 4, none⟩ = some (.int .i64 0) := hasC.cell 4
  have f3 := hasC.free 3
  have f4 := hasC.free 4
  have hasC5 : Has ((w3.setCell ⟨w.heap.size + 1 + 1, 3, none⟩ (.slice (some ⟨g1, 0, none⟩) nb nb)).setCell ⟨w.heap.size + 1 + 1, 4, none⟩ (.int .i64 sz)) (w.heap.size + 1 + 1) 61 #[.string nm, .int .i64 kind, .int .i64 al, .slice (some ⟨g1, 0, none⟩) nb nb, .int .i64 sz, .slice none 0 0] := (hasC.put 3 _).put 4 _
  have hasA5 : Has ((w3.setCell ⟨w.heap.size + 1 + 1, 3, none⟩ (.slice (some ⟨g1, 0, none⟩) nb nb)).setCell ⟨w.heap.size + 1 + 1, 4, none⟩ (.int .i64 sz)) (w.heap.size) 79 #[.string nm, .int .i64 kind, .int .i64 al, .slice a1 nb c1, .int .i64 sz, .slice a2 nf c2] := (hasA.away (p := ⟨w.heap.size + 1 + 1, 3, none⟩) (by show _ ≠ w.heap.size + 1 + 1; omega) _).away (p := ⟨w.heap.size + 1 + 1, 4, none⟩) (by show _ ≠ w.heap.size + 1 + 1; omega) _
  have hasB5 : Has ((w3.setCell ⟨w.heap.size + 1 + 1, 3, none⟩ (.slice (some ⟨g1, 0, none⟩) nb nb)).setCell ⟨w.heap.size + 1 + 1, 4, none⟩ (.int .i64 sz)) (w.heap.size + 1) 61 #[.string ⟨#[]⟩, .int .i64 0, .int .i64 0, .slice none 0 0, .int .i64 0, .slice none 0 0] := (hasB.away (p := ⟨w.heap.size + 1 + 1, 3, none⟩) (by show _ ≠ w.heap.size + 1 + 1; omega) _).away (p := ⟨w.heap.size + 1 + 1, 4, none⟩) (by show _ ≠ w.heap.size + 1 + 1; omega) _
  have hh5 : Has ((w3.setCell ⟨w.heap.size + 1 + 1, 3, none⟩ (.slice (some ⟨g1, 0, none⟩) nb nb)).setCell ⟨w.heap.size + 1 + 1, 4, none⟩ (.int .i64 sz)) g1 5 (bs.map (Value.int .u8)).toArray := (hh3.away (p := ⟨w.heap.size + 1 + 1, 3, none⟩) (by show _ ≠ w.heap.size + 1 + 1; have := G1.out; omega) _).away (p := ⟨w.heap.size + 1 + 1, 4, none⟩) (by show _ ≠ w.heap.size + 1 + 1; have := G1.out; omega) _
  have hb05 : Below w.heap.size w ((w3.setCell ⟨w.heap.size + 1 + 1, 3, none⟩ (.slice (some ⟨g1, 0, none⟩) nb nb)).setCell ⟨w.heap.size + 1 + 1, 4, none⟩ (.int .i64 sz)) := (hb03.setCell (p := ⟨w.heap.size + 1 + 1, 3, none⟩) (by show _ ≤ w.heap.size + 1 + 1; omega) _).setCell (p := ⟨w.heap.size + 1 + 1, 4, none⟩) (by show _ ≤ w.heap.size + 1 + 1; omega) _
  have HTF := hidden (toFixupS_has ((w3.setCell ⟨w.heap.size + 1 + 1, 3, none⟩ (.slice (some ⟨g1, 0, none⟩) nb nb)).setCell ⟨w.heap.size + 1 + 1, 4, none⟩ (.int .i64 sz)) B a2 c2 nf fs HNF.out (H2.out _ hb05) (Nat.le_trans hB hb05.size) hl2)
  have s5 : g1 < ((w3.setCell ⟨w.heap.size + 1 + 1, 3, none⟩ (.slice (some ⟨g1, 0, none⟩) nb nb)).setCell ⟨w.heap.size + 1 + 1, 4, none⟩ (.int .i64 sz)).heap.size := hh5.lt
  clear hasA hasB hasC hh3 hb3 hb03 H2
  go_wp2_with fail
  refine HTF.out.mono ?_
  clear HTF
  rintro e w6 ⟨rfl, hfx, hlt6, hb6, csF, hhF, hcsF⟩
  have HSZ : Hid (((w3.setCell ⟨w.heap.size + 1 + 1, 3, none⟩ (.slice (some ⟨g1, 0, none⟩) nb nb)).setCell ⟨w.heap.size + 1 + 1, 4, none⟩ (.int .i64 sz)).heap.size < w6.heap.size) := hlt6
  have g1v := G1.out
  have hasA6 := hasA5.below hb6 (by omega)
  have hasB6 := hasB5.below hb6 (by omega)
  have hasC6 := hasC5.below hb6 (by omega)
  have hh6 := hh5.below hb6 s5
  have hb06 : Below w.heap.size w w6 := hb05.trans (hb6.mono hb05.size)
  obtain ⟨g2, hg2⟩ : ∃ g, ((w3.setCell ⟨w.heap.size + 1 + 1, 3, none⟩ (.slice (some ⟨g1, 0, none⟩) nb nb)).setCell ⟨w.heap.size + 1 + 1, 4, none⟩ (.int .i64 sz)).heap.size = g := ⟨_, rfl⟩
  rw [hg2] at hfx hb6 s5 HSZ hhF ⊢
  clear hlt6 hasA5 hasB5 hasC5 hh5 hb05 x4 x5 c3 c4 f3 f4
  have c0 : w6.cell? ⟨w.heap.size + 1 + 1, 0, none⟩ = some (.string nm) := hasC6.cell 0
  have c1 : w6.cell? ⟨w.heap.size + 1 + 1, 1, none⟩ = some (.int .i64 kind) := hasC6.cell 1
  have c2 : w6.cell? ⟨w.heap.size + 1 + 1, 2, none⟩ = some (.int .i64 al) := hasC6.cell 2
  have c3 : w6.cell? ⟨w.heap.size + 1 + 1, 3, none⟩ = some (.slice (some ⟨g1, 0, none⟩) nb nb) := hasC6.cell 3
  have c4 : w6.cell? ⟨w.heap.size + 1 + 1, 4, none⟩ = some (.int .i64 sz) := hasC6.cell 4
  have c5 : w6.cell? ⟨w.heap.size + 1 + 1, 5, none⟩ = some (.slice none 0 0) := hasC6.cell 5
  have f0 := hasC6.free 0
  have f1 := hasC6.free 1
  have f2 := hasC6.free 2
  have f3 := hasC6.free 3
  have f4 := hasC6.free 4
  have f5 := hasC6.free 5
  have z0 : w6.cell? ⟨w.heap.size + 1, 0, none⟩ = some (.string ⟨#[]⟩) := hasB6.cell 0
  have z1 : w6.cell? ⟨w.heap.size + 1, 1, none⟩ = some (.int .i64 0) := hasB6.cell 1
  have z2 : w6.cell? ⟨w.heap.size + 1, 2, none⟩ = some (.int .i64 0) := hasB6.cell 2
  have z3 : w6.cell? ⟨w.heap.size + 1, 3, none⟩ = some (.slice none 0 0) := hasB6.cell 3
  have z4 : w6.cell? ⟨w.heap.size + 1, 4, none⟩ = some (.int .i64 0) := hasB6.cell 4
  have z5 : w6.cell? ⟨w.heap.size + 1, 5, none⟩ = some (.slice none 0 0) := hasB6.cell 5
  have y0 := hasB6.free 0
  have y1 := hasB6.free 1
  have y2 := hasB6.free 2
  have y3 := hasB6.free 3
  have y4 := hasB6.free 4
  have y5 := hasB6.free 5
  have HB6 := hidden hasB6
  have HH6 := hidden hh6
  have HHF := hidden hhF
  have HFX := hidden hfx
  clear hasA6 hasB6 hasC6 hh6 hfx hg2 hhF
  go_wp2_with fail
  have hfin : Has (((((((w6.setCell ⟨w.heap.size + 1 + 1, 5, none⟩ (.slice (some ⟨g2, 0, none⟩) nf nf)).setCell ⟨w.heap.size + 1, 0, none⟩ (.string nm)).setCell ⟨w.heap.size + 1, 1, none⟩ (.int .i64 kind)).setCell ⟨w.heap.size + 1, 2, none⟩ (.int .i64 al)).setCell ⟨w.heap.size + 1, 3, none⟩ (.slice (some ⟨g1, 0, none⟩) nb nb)).setCell ⟨w.heap.size + 1, 4, none⟩ (.int .i64 sz)).setCell ⟨w.heap.size + 1, 5, none⟩ (.slice (some ⟨g2, 0, none⟩) nf nf)) (w.heap.size + 1) 61 #[.string nm, .int .i64 kind, .int .i64 al, .slice (some ⟨g1, 0, none⟩) nb nb, .int .i64 sz, .slice (some ⟨g2, 0, none⟩) nf nf] := ((((((HB6.out.away (p := ⟨w.heap.size + 1 + 1, 5, none⟩) (by show _ ≠ w.heap.size + 1 + 1; omega) _).put 0 _).put 1 _).put 2 _).put 3 _).put 4 _).put 5 _
  have hbytes : Has (((((((w6.setCell ⟨w.heap.size + 1 + 1, 5, none⟩ (.slice (some ⟨g2, 0, none⟩) nf nf)).setCell ⟨w.heap.size + 1, 0, none⟩ (.string nm)).setCell ⟨w.heap.size + 1, 1, none⟩ (.int .i64 kind)).setCell ⟨w.heap.size + 1, 2, none⟩ (.int .i64 al)).setCell ⟨w.heap.size + 1, 3, none⟩ (.slice (some ⟨g1, 0, none⟩) nb nb)).setCell ⟨w.heap.size + 1, 4, none⟩ (.int .i64 sz)).setCell ⟨w.heap.size + 1, 5, none⟩ (.slice (some ⟨g2, 0, none⟩) nf nf)) g1 5 (bs.map (Value.int .u8)).toArray := (((((((HH6.out).away (p := ⟨w.heap.size + 1 + 1, 5, none⟩) (by show _ ≠ w.heap.size + 1 + 1; omega) _).away (p := ⟨w.heap.size + 1, 0, none⟩) (by show _ ≠ w.heap.size + 1; omega) _).away (p := ⟨w.heap.size + 1, 1, none⟩) (by show _ ≠ w.heap.size + 1; omega) _).away (p := ⟨w.heap.size + 1, 2, none⟩) (by show _ ≠ w.heap.size + 1; omega) _).away (p := ⟨w.heap.size + 1, 3, none⟩) (by show _ ≠ w.heap.size + 1; omega) _).away (p := ⟨w.heap.size + 1, 4, none⟩) (by show _ ≠ w.heap.size + 1; omega) _).away (p := ⟨w.heap.size + 1, 5, none⟩) (by show _ ≠ w.heap.size + 1; omega) _
  have g2v : g1 < g2 := s5
  have hown2 : Has (((((((w6.setCell ⟨w.heap.size + 1 + 1, 5, none⟩ (.slice (some ⟨g2, 0, none⟩) nf nf)).setCell ⟨w.heap.size + 1, 0, none⟩ (.string nm)).setCell ⟨w.heap.size + 1, 1, none⟩ (.int .i64 kind)).setCell ⟨w.heap.size + 1, 2, none⟩ (.int .i64 al)).setCell ⟨w.heap.size + 1, 3, none⟩ (.slice (some ⟨g1, 0, none⟩) nb nb)).setCell ⟨w.heap.size + 1, 4, none⟩ (.int .i64 sz)).setCell ⟨w.heap.size + 1, 5, none⟩ (.slice (some ⟨g2, 0, none⟩) nf nf)) g2 94 csF := (((((((HHF.out).away (p := ⟨w.heap.size + 1 + 1, 5, none⟩) (by show _ ≠ w.heap.size + 1 + 1; omega) _).away (p := ⟨w.heap.size + 1, 0, none⟩) (by show _ ≠ w.heap.size + 1; omega) _).away (p := ⟨w.heap.size + 1, 1, none⟩) (by show _ ≠ w.heap.size + 1; omega) _).away (p := ⟨w.heap.size + 1, 2, none⟩) (by show _ ≠ w.heap.size + 1; omega) _).away (p := ⟨w.heap.size + 1, 3, none⟩) (by show _ ≠ w.heap.size + 1; omega) _).away (p := ⟨w.heap.size + 1, 4, none⟩) (by show _ ≠ w.heap.size + 1; omega) _).away (p := ⟨w.heap.size + 1, 5, none⟩) (by show _ ≠ w.heap.size + 1; omega) _
  have hfixs : Fixs (((((((w6.setCell ⟨w.heap.size + 1 + 1, 5, none⟩ (.slice (some ⟨g2, 0, none⟩) nf nf)).setCell ⟨w.heap.size + 1, 0, none⟩ (.string nm)).setCell ⟨w.heap.size + 1, 1, none⟩ (.int .i64 kind)).setCell ⟨w.heap.size + 1, 2, none⟩ (.int .i64 al)).setCell ⟨w.heap.size + 1, 3, none⟩ (.slice (some ⟨g1, 0, none⟩) nb nb)).setCell ⟨w.heap.size + 1, 4, none⟩ (.int .i64 sz)).setCell ⟨w.heap.size + 1, 5, none⟩ (.slice (some ⟨g2, 0, none⟩) nf nf)) (g2 + 1) (some ⟨g2, 0, none⟩) fs := (((((((HFX.out).set (p := ⟨w.heap.size + 1 + 1, 5, none⟩) (by show _ ≠ w.heap.size + 1 + 1; omega) _).set (p := ⟨w.heap.size + 1, 0, none⟩) (by show _ ≠ w.heap.size + 1; omega) _).set (p := ⟨w.heap.size + 1, 1, none⟩) (by show _ ≠ w.heap.size + 1; omega) _).set (p := ⟨w.heap.size + 1, 2, none⟩) (by show _ ≠ w.heap.size + 1; omega) _).set (p := ⟨w.heap.size + 1, 3, none⟩) (by show _ ≠ w.heap.size + 1; omega) _).set (p := ⟨w.heap.size + 1, 4, none⟩) (by show _ ≠ w.heap.size + 1; omega) _).set (p := ⟨w.heap.size + 1, 5, none⟩) (by show _ ≠ w.heap.size + 1; omega) _
  have hbel : Below w.heap.size w (((((((w6.setCell ⟨w.heap.size + 1 + 1, 5, none⟩ (.slice (some ⟨g2, 0, none⟩) nf nf)).setCell ⟨w.heap.size + 1, 0, none⟩ (.string nm)).setCell ⟨w.heap.size + 1, 1, none⟩ (.int .i64 kind)).setCell ⟨w.heap.size + 1, 2, none⟩ (.int .i64 al)).setCell ⟨w.heap.size + 1, 3, none⟩ (.slice (some ⟨g1, 0, none⟩) nb nb)).setCell ⟨w.heap.size + 1, 4, none⟩ (.int .i64 sz)).setCell ⟨w.heap.size + 1, 5, none⟩ (.slice (some ⟨g2, 0, none⟩) nf nf)) := (((((((hb06).setCell (p := ⟨w.heap.size + 1 + 1, 5, none⟩) (by show _ ≤ w.heap.size + 1 + 1; omega) _).setCell (p := ⟨w.heap.size + 1, 0, none⟩) (by show _ ≤ w.heap.size + 1; omega) _).setCell (p := ⟨w.heap.size + 1, 1, none⟩) (by show _ ≤ w.heap.size + 1; omega) _).setCell (p := ⟨w.heap.size + 1, 2, none⟩) (by show _ ≤ w.heap.size + 1; omega) _).setCell (p := ⟨w.heap.size + 1, 3, none⟩) (by show _ ≤ w.heap.size + 1; omega) _).setCell (p := ⟨w.heap.size + 1, 4, none⟩) (by show _ ≤ w.heap.size + 1; omega) _).setCell (p := ⟨w.heap.size + 1, 5, none⟩) (by show _ ≤ w.heap.size + 1; omega) _
  have hsz9 : (((((((w6.setCell ⟨w.heap.size + 1 + 1, 5, none⟩ (.slice (some ⟨g2, 0, none⟩) nf nf)).setCell ⟨w.heap.size + 1, 0, none⟩ (.string nm)).setCell ⟨w.heap.size + 1, 1, none⟩ (.int .i64 kind)).setCell ⟨w.heap.size + 1, 2, none⟩ (.int .i64 al)).setCell ⟨w.heap.size + 1, 3, none⟩ (.slice (some ⟨g1, 0, none⟩) nb nb)).setCell ⟨w.heap.size + 1, 4, none⟩ (.int .i64 sz)).setCell ⟨w.heap.size + 1, 5, none⟩ (.slice (some ⟨g2, 0, none⟩) nf nf)).heap.size = w6.heap.size := by simp
  have hg26 : g2 + 1 ≤ w6.heap.size := by have := HSZ.out; omega
  refine bodyPost_ret (results_cell_row rfl _ _ (w.heap.size + 1) 61 #[.string nm, .int .i64 kind, .int .i64 al, .slice (some ⟨g1, 0, none⟩) nb nb, .int .i64 sz, .slice (some ⟨g2, 0, none⟩) nf nf] (0, 0) _ rfl hfin Try.underlying61 rfl (by kernel_rfl)) rfl ?_
  exact ⟨g1, g2, nb, nf, rfl, Ints.ofHas hbytes rfl HWF.out hbytes.lt, hfixs.more (by rw [hsz9]; exact hg26), hbel, by have := G1.out; omega, by have := G1.out; omega, hbytes, csF, hown2, by rw [hcsF, HNF.out]⟩
theorem toSection_any (w : World) (B : Nat) (s : Sx) (a1 : Option Addr) (c1 : Nat) (a2 : Option Addr) (c2 : Nat) (h1 : Ints w .u8 B a1 s.bytes) (h2 : Fixs w B a2 s.fixs) (hB : B ≤ w.heap.size) (hl1 : s.bytes.length ≤ 1048576) (hl2 : s.fixs.length ≤ 1048576) :
    Calls Try.prog 53 #[s.agg a1 c1 a2 c2] w fun e w' => ∃ b1 b2 n1 n2, e = .returned (s.agg (some ⟨b1, 0, none⟩) n1 (some ⟨b2, 0, none⟩) n2) ∧ Ints w' .u8 w'.heap.size (some ⟨b1, 0, none⟩) s.bytes ∧ Fixs w' w'.heap.size (some ⟨b2, 0, none⟩) s.fixs ∧ Below w.heap.size w w' :=
  (toSection_far w B s a1 c1 a2 c2 h1 h2 hB hl1 hl2).mono fun _ _ ⟨b1, b2, n1, n2, he, hi, hf, hb, _⟩ => ⟨b1, b2, n1, n2, he, hi, hf, hb⟩

end Go.Proofs.Ytdbedkjnoppkmaa
/- laws.eqSection: equal sections are found equal. -/
namespace Go.Proofs.Ytdbedkjnoppkmaa
open Go.RowKit

set_option maxHeartbeats 1000000 in
theorem eqSection_yes (w : World) (B1 B2 : Nat) (s : Sx) (a1 : Option Addr) (c1 : Nat) (a2 : Option Addr) (c2 : Nat) (b1 : Option Addr) (d1 : Nat) (b2 : Option Addr) (d2 : Nat)
    (h1 : Ints w .u8 B1 a1 s.bytes) (h2 : Fixs w B1 a2 s.fixs) (k1 : Ints w .u8 B2 b1 s.bytes) (k2 : Fixs w B2 b2 s.fixs) (hB1 : B1 ≤ w.heap.size) (hB2 : B2 ≤ w.heap.size) (hl1 : s.bytes.length ≤ 9223372036854775807) (hl2 : s.fixs.length ≤ 9223372036854775807) :
    Calls Try.prog 54 #[s.agg a1 c1 a2 c2, s.agg b1 d1 b2 d2] w fun e w' => e = .returned (.bool true) ∧ Below w.heap.size w w' := by
  obtain ⟨nm, kind, al, bs, sz, fs⟩ := s
  unfold Sx.agg
  simp only at h1 h2 k1 k2 hl1 hl2 ⊢
  have HE1 := hidden (fun (W : World) (hW : Below w.heap.size w W) => eqByteS_yes W B1 B2 a1 b1 c1 d1 bs (h1.below (hW.mono hB1)) (k1.below (hW.mono hB2)) hl1)
  have HE2 := hidden (fun (W : World) (hW : Below w.heap.size w W) => eqFixupS_yes W B1 B2 a2 b2 c2 d2 fs.length fs rfl (h2.below (hW.mono hB1)) (k2.below (hW.mono hB2)) (Nat.le_trans hB1 hW.size) (Nat.le_trans hB2 hW.size) hl2)
  obtain ⟨nb, hnb⟩ : ∃ n, n = bs.length := ⟨_, rfl⟩
  obtain ⟨nf, hnf⟩ : ∃ n, n = fs.length := ⟨_, rfl⟩
  rw [← hnb] at HE1 ⊢
  rw [← hnf] at HE2 ⊢
  have hss : (nm.toList == nm.toList) = true := beq_self_eq_true _
  clear h1 h2 k1 k2 hnb hnf hl1 hl2
  go_enter Try.func54, Try.ntmps54
  go_wp2_with fail
  refine (HE1.out _ (((Below.refl _ _).alloc (Nat.le_refl _) _).alloc (by simp) _)).mono ?_
  clear HE1
  rintro e w1 ⟨rfl, m, rfl⟩
  have hb1 : Below w.heap.size w _ := below_drewN (((Below.refl w.heap.size w).alloc (Nat.le_refl _) (.cells #[.string nm, .int .i64 kind, .int .i64 al, .slice a1 nb c1, .int .i64 sz, .slice a2 nf c2] 61)).alloc (by simp) (.cells #[.string nm, .int .i64 kind, .int .i64 al, .slice b1 nb d1, .int .i64 sz, .slice b2 nf d2] 61)) m
  go_wp2_with fail
  refine (HE2.out _ hb1).mono ?_
  clear HE2
  rintro e w2 ⟨rfl, hb2⟩
  have hb3 : Below w.heap.size w w2 := hb1.trans (hb2.mono hb1.size)
  clear hb1 hb2
  go_wp2_with fail
  go_ret
  exact ⟨rfl, hb3⟩

end Go.Proofs.Ytdbedkjnoppkmaa

/-
  Fixups and sections in memory. Symbols in memory. Sections: plain words, and the model's functions of chapter 3. The laws' own functions on sections: their sizes, copies, comparisons. laws.eqSection: equal sections are found equal. Sections in a list in memory. Sections in a list: toSectionS. Sections in a list: eqSectionS.
-/
import Derived.WalkSpells
import Derived.WalkLawsBesides
import Derived.Handy
import Derived.StillTailTactics
import Derived.BigQuiet
import Derived.Deep.QuietTactic
import Derived.Test.YtiocchmlmcoieaaBase
import Derived.Test.YtiocchmlmcoieaaMem
import Derived.Test.YtiocchmlmcoieaaPlaceS
import Derived.Test.YtiocchmlmcoieaaNum
/- Fixups and sections in memory. -/
namespace Go.Proofs.Ytiocchmlmcoieaa
open Go.RowKit

/-- A fixup, as numbers. -/
structure Fx where
  pl : Int
  kind : Int
  to : Int
  add : Int
def Fx.agg (f : Fx) : Value := .agg #[.int .i64 f.pl, .int .i64 f.kind, .int .i64 f.to, .int .i64 f.add]
set_option maxRecDepth 100000 in
set_option maxHeartbeats 1000000 in
theorem toFixup_any (w : World) (f : Fx) :
    Calls Try.prog 93 #[f.agg] w fun e w' => e = .returned f.agg ∧ Below w.heap.size w w' := by
  obtain ⟨a, b, c, d⟩ := f
  unfold Fx.agg
  go_enter Try.func93, Try.ntmps93
  go_wp2
  refine bodyPost_ret (results_cell_row rfl _ _ (w.heap.size + 1) 119 #[.int .i64 a, .int .i64 b, .int .i64 c, .int .i64 d] (0, 0) _ rfl ?_ Try.underlying119 rfl (by kernel_rfl)) rfl ?_
  · have e : w.heap.size + 1 = (w.alloc (.cells #[.int .i64 a, .int .i64 b, .int .i64 c, .int .i64 d] 143)).heap.size := by simp
    rw [Below.heap_alloc _ _ _ (by simp)]
    rw [e]
    exact heap_alloc_new _ _
  exact ⟨rfl, (((Below.refl _ _).alloc (Nat.le_refl _) _).alloc (by simp) _).alloc (by simp; omega) _⟩
set_option maxRecDepth 100000 in
set_option maxHeartbeats 1000000 in
theorem eqFixup_yes (w : World) (f : Fx) :
    Calls Try.prog 94 #[f.agg, f.agg] w fun e w' => e = .returned (.bool true) ∧ Below w.heap.size w w' := by
  obtain ⟨a, b, c, d⟩ := f
  unfold Fx.agg
  go_enter Try.func94, Try.ntmps94
  go_wp2
  go_ret
  exact ⟨rfl, (((Below.refl _ _).alloc (Nat.le_refl _) _).alloc (by simp) _)⟩
/-- The slice at address 'a' holds these fixups, in a block below 'B' (where it holds any). -/
def Fixs (w : World) (B : Nat) (a : Option Addr) (fs : List Fx) : Prop :=
  0 < fs.length → ∃ b off, a = some ⟨b, off, none⟩ ∧ b < B ∧ ∀ i f, fs[i]? = some f →
    w.cell? ⟨b, off + i * 4, none⟩ = some (.int .i64 f.pl) ∧ w.cell? ⟨b, off + i * 4 + 1, none⟩ = some (.int .i64 f.kind) ∧ w.cell? ⟨b, off + i * 4 + 2, none⟩ = some (.int .i64 f.to) ∧ w.cell? ⟨b, off + i * 4 + 3, none⟩ = some (.int .i64 f.add)
section
variable {w w' : World} {B B' : Nat} {a : Option Addr} {fs : List Fx}
theorem Fixs.at_ (h : Fixs w B a fs) {i : Nat} (hi : i < fs.length) : ∃ b off, a = some ⟨b, off, none⟩ ∧ b < B ∧
    w.cell? ⟨b, off + i * 4, none⟩ = some (.int .i64 fs[i].pl) ∧ w.cell? ⟨b, off + i * 4 + 1, none⟩ = some (.int .i64 fs[i].kind) ∧ w.cell? ⟨b, off + i * 4 + 2, none⟩ = some (.int .i64 fs[i].to) ∧ w.cell? ⟨b, off + i * 4 + 3, none⟩ = some (.int .i64 fs[i].add) := by
  obtain ⟨b, off, ha, hb, hc⟩ := h (by omega)
  exact ⟨b, off, ha, hb, hc i _ (List.getElem?_eq_getElem hi)⟩
theorem Fixs.keep (h : Fixs w B a fs) (hk : ∀ p : Addr, p.block < B → w'.cell? p = w.cell? p) : Fixs w' B a fs := fun hn => by
  obtain ⟨b, off, ha, hb, hc⟩ := h hn
  refine ⟨b, off, ha, hb, fun i f hi => ?_⟩
  obtain ⟨c0, c1, c2, c3⟩ := hc i f hi
  exact ⟨(hk _ hb).trans c0, (hk _ hb).trans c1, (hk _ hb).trans c2, (hk _ hb).trans c3⟩
theorem Fixs.more (h : Fixs w B a fs) (hB : B ≤ B') : Fixs w B' a fs := fun hn => by
  obtain ⟨b, off, ha, hb, hc⟩ := h hn
  exact ⟨b, off, ha, by omega, hc⟩
theorem Fixs.below (h : Fixs w B a fs) (hb : Below B w w') : Fixs w' B a fs := h.keep fun _ hp => hb.cell hp
theorem Fixs.drewN (h : Fixs w B a fs) (n : Nat) : Fixs (w.drewN n) B a fs := h
theorem Fixs.alloc (h : Fixs w B a fs) (hB : B ≤ w.heap.size) (o : Obj) : Fixs (w.alloc o) B a fs := h.keep fun p hp => World.cell?_alloc_lt w o p (by omega)
theorem Fixs.set {g : Nat} (h : Fixs w B (some ⟨g, 0, none⟩) fs) {p : Addr} (hp : g ≠ p.block) (u : Value) : Fixs (w.setCell p u) B (some ⟨g, 0, none⟩) fs := fun hn => by
  obtain ⟨b, off, ha, hb, hc⟩ := h hn
  injection ha with ha
  injection ha with e1 e2
  subst e1; subst e2
  have hk : ∀ i, (w.setCell p u).cell? ⟨g, i, none⟩ = w.cell? ⟨g, i, none⟩ := fun i => World.cell?_of_block (Below.heap_setCell w p u g hp)
  refine ⟨g, 0, rfl, hb, fun i f hi => ?_⟩
  obtain ⟨c0, c1, c2, c3⟩ := hc i f hi
  exact ⟨(hk _).trans c0, (hk _).trans c1, (hk _).trans c2, (hk _).trans c3⟩
theorem Fixs.nil : Fixs w B a [] := fun h => by simp at h
end
set_option maxRecDepth 100000 in
set_option maxHeartbeats 1000000 in
theorem eqFixupS_yes (w : World) (B1 B2 : Nat) (a1 a2 : Option Addr) (c1 c2 n : Nat) (fs : List Fx) (hn : n = fs.length) (h1 : Fixs w B1 a1 fs) (h2 : Fixs w B2 a2 fs) (hB1 : B1 ≤ w.heap.size) (hB2 : B2 ≤ w.heap.size) (hlen : n ≤ 9223372036854775807) :
    Calls Try.prog 91 #[.slice a1 n c1, .slice a2 n c2] w fun e w' => e = .returned (.bool true) ∧ Below w.heap.size w w' := by
  have HL := hidden hn
  have H1 := hidden h1
  have H2 := hidden h2
  clear hn h1 h2
  go_enter Try.func91, Try.ntmps91
  go_wp2
  go_loopw [5] (fun i wr => ∃ k : Nat, i = .int .i64 k ∧ k ≤ n ∧ Below w.heap.size w wr) (fun i _ => n - (intOf i).toNat)
  case atStart => exact ⟨0, rfl, by omega, Below.refl _ _⟩
  case round =>
    obtain ⟨k, rfl, hk, hb⟩ := hrel
    by_cases hlt : k < n
    · have hi : (k : Int) < (n : Int) := by omega
      have hkl : k < fs.length := by rw [← HL.out]; exact hlt
      obtain ⟨b1, o1, rfl, _, p0, p1, p2, p3⟩ := (H1.out.below (hb.mono hB1)).at_ hkl
      obtain ⟨b2, o2, rfl, _, q0, q1, q2, q3⟩ := (H2.out.below (hb.mono hB2)).at_ hkl
      obtain ⟨f, hf⟩ : ∃ f, fs[k] = f := ⟨_, rfl⟩
      rw [hf] at p0 p1 p2 p3 q0 q1 q2 q3
      clear hf hkl
      have HC := hidden (eqFixup_yes wr.drew f)
      go_wp2
      go_still_tail 8, (by kernel_rfl)
      change wpList _ _ _ _ _ wr.drew
      go_wp2_with (go_at_call 94; refine HC.out.mono ?_; rintro e w2 ⟨rfl, hb2⟩)
      have hb3 : Below w.heap.size w w2 := hb.drew.trans (hb2.mono hb.size)
      go_roundw
      case rel => exact ⟨k + 1, by go_num, by omega, hb3⟩
      case measure => simp [intOf]; omega
    · have hi : ¬ (k : Int) < (n : Int) := by omega
      go_wp2
      go_ret
      exact ⟨rfl, hb⟩
theorem run_make_k {P : Program} (t e : TypeId) (z : Value) (size bytes : Nat) (ht : P.underlying t = some (.slice e)) (hinfo : (P.info? e).map (fun i => (i.zero, i.size, i.bytes)) = some (some z, size, bytes))
    (kl kc : IntKind) (n : Nat) (hbytes : bytes * n ≤ 281474976710656) (h63 : n ≤ 9223372036854775807) (w : World) :
    (Instr.makeSlice t (.int kl (n : Int)) (.int kc (n : Int))).run P w = .ok (.slice (some ⟨w.heap.size, 0, none⟩) n n) (w.alloc (.cells (madeCells z.cells (n * size)) e)) := by
  obtain ⟨i, hi, hzz⟩ := Option.map_eq_some_iff.1 hinfo
  simp only [Prod.mk.injEq] at hzz
  obtain ⟨hz, hs, hb⟩ := hzz
  have hb' : (i.bytes : Int) * (n : Int) ≤ 281474976710656 := by
    have h : ((i.bytes * n : Nat) : Int) ≤ 281474976710656 := by rw [hb]; omega
    rwa [Int.natCast_mul] at h
  have hr := run_make (P := P) w t e i z ht hi hz kl kc n n (by omega) (Int.le_refl _) hb' (by omega)
  simp only [Int.toNat_natCast, hs] at hr
  exact hr
theorem Try.info_fixup : (Try.prog.info? 119).map (fun i => (i.zero, i.size, i.bytes)) = some (some (.agg #[.int .i64 0, .int .i64 0, .int .i64 0, .int .i64 0]), 4, 32) := by kernel_rfl
/-- The cells of a row of fixups that has been filled up to k. -/
def FilledF (cs : Array Value) (fs : List Fx) (k : Nat) : Prop :=
  cs.size = fs.length * 4 ∧ ∀ i f, i < k → fs[i]? = some f → cs[i * 4]? = some (.int .i64 f.pl) ∧ cs[i * 4 + 1]? = some (.int .i64 f.kind) ∧ cs[i * 4 + 2]? = some (.int .i64 f.to) ∧ cs[i * 4 + 3]? = some (.int .i64 f.add)
def putF (cs : Array Value) (k : Nat) (f : Fx) : Array Value :=
  (((cs.setIfInBounds (k * 4) (.int .i64 f.pl)).setIfInBounds (k * 4 + 1) (.int .i64 f.kind)).setIfInBounds (k * 4 + 2) (.int .i64 f.to)).setIfInBounds (k * 4 + 3) (.int .i64 f.add)
theorem FilledF.next {cs : Array Value} {fs : List Fx} {k : Nat} {f : Fx} (h : FilledF cs fs k) (hf : fs[k]? = some f) : FilledF (putF cs k f) fs (k + 1) := by
  have hk : k < fs.length := (List.getElem?_eq_some_iff.1 hf).1
  have hs := h.1
  refine ⟨by simp [putF, hs], fun i g hi hg => ?_⟩
  by_cases e : i = k
  · subst e
    rw [hf] at hg; injection hg with hg; subst hg
    unfold putF
    simp only [Array.getElem?_setIfInBounds, Array.size_setIfInBounds, hs]
    refine ⟨?_, ?_, ?_, ?_⟩ <;> simp <;> omega
  · obtain ⟨c0, c1, c2, c3⟩ := h.2 i g (by omega) hg
    unfold putF
    simp only [Array.getElem?_setIfInBounds, Array.size_setIfInBounds]
    refine ⟨?_, ?_, ?_, ?_⟩
    · rw [if_neg (by omega), if_neg (by omega), if_neg (by omega), if_neg (by omega)]; exact c0
    · rw [if_neg (by omega), if_neg (by omega), if_neg (by omega), if_neg (by omega)]; exact c1
    · rw [if_neg (by omega), if_neg (by omega), if_neg (by omega), if_neg (by omega)]; exact c2
    · rw [if_neg (by omega), if_neg (by omega), if_neg (by omega), if_neg (by omega)]; exact c3
theorem FilledF.fixs {cs : Array Value} {fs : List Fx} {k g B : Nat} {w : World} (h : FilledF cs fs k) (hk : k = fs.length) (hh : Has w g 119 cs) (hB : g < B) : Fixs w B (some ⟨g, 0, none⟩) fs := fun _ => by
  refine ⟨g, 0, rfl, hB, fun i f hi => ?_⟩
  obtain ⟨c0, c1, c2, c3⟩ := h.2 i f (by rw [hk]; exact (List.getElem?_eq_some_iff.1 hi).1) hi
  rw [Nat.zero_add]
  exact ⟨(hh.cell _).trans c0, (hh.cell _).trans c1, (hh.cell _).trans c2, (hh.cell _).trans c3⟩
set_option maxRecDepth 100000 in
set_option maxHeartbeats 1000000 in
theorem toFixupS_has (w : World) (B : Nat) (a : Option Addr) (c n : Nat) (fs : List Fx) (hn : n = fs.length) (h : Fixs w B a fs) (hB : B ≤ w.heap.size) (hlen : n ≤ 1048576) :
    Calls Try.prog 89 #[.slice a n c] w fun e w' => e = .returned (.slice (some ⟨w.heap.size, 0, none⟩) n n) ∧ Fixs w' (w.heap.size + 1) (some ⟨w.heap.size, 0, none⟩) fs ∧ w.heap.size < w'.heap.size ∧ Below w.heap.size w w' ∧ (∃ cs, Has w' w.heap.size 119 cs ∧ cs.size = n * 4) := by
  have HL := hidden hn
  have hst : FilledF (madeCells (Value.agg #[.int .i64 0, .int .i64 0, .int .i64 0, .int .i64 0]).cells (n * 4)) fs 0 := ⟨by rw [size_madeCells, hn], fun i f hi => by omega⟩
  have HF := hidden hst
  have H1 := hidden h
  have hmk := fun W => run_make_k (P := Try.prog) 40 119 _ 4 32 Try.underlying40 Try.info_fixup .i64 .i64 n (by omega) (by omega) W
  clear hn hst h
  go_enter Try.func89, Try.ntmps89
  go_wp2
  go_loopw [4] (fun i wr => ∃ (k : Nat) (cs : Array Value), k ≤ n ∧ i = .int .i64 k ∧ Hid (FilledF cs fs k) ∧ Has wr w.heap.size 119 cs ∧ Below w.heap.size w wr) (fun i _ => n - (intOf i).toNat)
  case atStart => exact ⟨0, _, Nat.zero_le _, rfl, HF, Has.new _ _ _, (Below.refl _ _).alloc (Nat.le_refl _) _⟩
  case round =>
    obtain ⟨k, cs, hk, rfl, hf, hh, hb⟩ := hrel
    clear hmk HF
    by_cases hlt : k < n
    · have hkl : k < fs.length := by rw [← HL.out]; exact hlt
      obtain ⟨b1, o1, rfl, _, p0, p1, p2, p3⟩ := (H1.out.below (hb.mono hB)).at_ hkl
      obtain ⟨f, hfk⟩ : ∃ f, fs[k] = f := ⟨_, rfl⟩
      rw [hfk] at p0 p1 p2 p3
      have HX : Hid (fs[k]? = some f) := by show _ = _; rw [List.getElem?_eq_getElem hkl, hfk]
      have HC := hidden (toFixup_any wr f)
      have HFF := hf
      have HH := hidden hh
      clear hfk hf hh hkl
      have hi : (k : Int) < (n : Int) := by omega
      go_wp2_with fail
      refine HC.out.mono ?_
      clear HC
      rintro e w2 ⟨rfl, hb2⟩
      have hh2 : Has w2 w.heap.size 119 cs := HH.out.below hb2 HH.out.lt
      have hcs : k * 4 + 3 < cs.size := by rw [HFF.out.1, ← HL.out]; omega
      obtain ⟨v0, hv0⟩ : ∃ v, cs[k * 4]? = some v := ⟨_, Array.getElem?_eq_getElem (by omega)⟩
      obtain ⟨v1, hv1⟩ : ∃ v, cs[k * 4 + 1]? = some v := ⟨_, Array.getElem?_eq_getElem (by omega)⟩
      obtain ⟨v2, hv2⟩ : ∃ v, cs[k * 4 + 2]? = some v := ⟨_, Array.getElem?_eq_getElem (by omega)⟩
      obtain ⟨v3, hv3⟩ : ∃ v, cs[k * 4 + 3]? = some v := ⟨_, Array.getElem?_eq_getElem (by omega)⟩
      have e0 := (hh2.cell (k * 4)).trans hv0
      have e1 := (hh2.cell (k * 4 + 1)).trans hv1
      have e2 := (hh2.cell (k * 4 + 2)).trans hv2
      have e3 := (hh2.cell (k * 4 + 3)).trans hv3
      have f0 := hh2.free (k * 4)
      have f1 := hh2.free (k * 4 + 1)
      have f2 := hh2.free (k * 4 + 2)
      have f3 := hh2.free (k * 4 + 3)
      have hb3 : Below w.heap.size w w2 := hb.trans (hb2.mono hb.size)
      have HN := hidden (HFF.out.next HX.out)
      have hput : Has ((((w2.setCell ⟨w.heap.size, k * 4, none⟩ (.int .i64 f.pl)).setCell ⟨w.heap.size, k * 4 + 1, none⟩ (.int .i64 f.kind)).setCell ⟨w.heap.size, k * 4 + 2, none⟩ (.int .i64 f.to)).setCell ⟨w.heap.size, k * 4 + 3, none⟩ (.int .i64 f.add)) w.heap.size 119 (putF cs k f) :=
        (((hh2.put _ _).put _ _).put _ _).put _ _
      have hbp := (((hb3.setCell (p := ⟨w.heap.size, k * 4, none⟩) (Nat.le_refl _) (.int .i64 f.pl)).setCell (p := ⟨w.heap.size, k * 4 + 1, none⟩) (Nat.le_refl _) (.int .i64 f.kind)).setCell (p := ⟨w.heap.size, k * 4 + 2, none⟩) (Nat.le_refl _) (.int .i64 f.to)).setCell (p := ⟨w.heap.size, k * 4 + 3, none⟩) (Nat.le_refl _) (.int .i64 f.add)
      clear hh2 hcs hv0 hv1 hv2 hv3 hb hb2 hb3 HFF HH
      unfold Fx.agg
      go_wp2_with fail
      go_roundw
      case rel => exact ⟨k + 1, _, by omega, by go_num, HN, hput, hbp⟩
      case measure => simp [intOf]; omega
    · have hkl : k = fs.length := by rw [← HL.out]; omega
      have HA := hidden (hf.out.fixs hkl hh (Nat.lt_succ_self _))
      have hcs : cs.size = n * 4 := by rw [hf.out.1, ← HL.out]
      have hlt' := hh.lt
      have hi : ¬ (k : Int) < (n : Int) := by omega
      clear hkl hf
      go_wp2
      go_ret
      exact ⟨rfl, HA.out, hlt', hb, cs, hh, hcs⟩
theorem toFixupS_any (w : World) (B : Nat) (a : Option Addr) (c n : Nat) (fs : List Fx) (hn : n = fs.length) (h : Fixs w B a fs) (hB : B ≤ w.heap.size) (hlen : n ≤ 1048576) :
    Calls Try.prog 89 #[.slice a n c] w fun e w' => e = .returned (.slice (some ⟨w.heap.size, 0, none⟩) n n) ∧ Fixs w' (w.heap.size + 1) (some ⟨w.heap.size, 0, none⟩) fs ∧ w.heap.size < w'.heap.size ∧ Below w.heap.size w w' :=
  (toFixupS_has w B a c n fs hn h hB hlen).mono fun _ _ ⟨h1, h2, h3, h4, _⟩ => ⟨h1, h2, h3, h4⟩

end Go.Proofs.Ytiocchmlmcoieaa
/- Symbols in memory. -/
namespace Go.Proofs.Ytiocchmlmcoieaa
open Go.RowKit

/-- A symbol. -/
structure Sm where
  name : ByteArray
  bind : Int
  loc : Int
  value : Int
def Sm.agg (f : Sm) : Value := .agg #[.string f.name, .int .i64 f.bind, .int .i64 f.loc, .int .i64 f.value]
set_option maxRecDepth 100000 in
set_option maxHeartbeats 1000000 in
theorem toSymbol_any (w : World) (f : Sm) :
    Calls Try.prog 78 #[f.agg] w fun e w' => e = .returned f.agg ∧ Below w.heap.size w w' := by
  obtain ⟨a, b, c, d⟩ := f
  unfold Sm.agg
  go_enter Try.func78, Try.ntmps78
  go_wp2
  refine bodyPost_ret (results_cell_row rfl _ _ (w.heap.size + 1) 82 #[.string a, .int .i64 b, .int .i64 c, .int .i64 d] (0, 0) _ rfl ?_ Try.underlying82 rfl (by kernel_rfl)) rfl ?_
  · have e : w.heap.size + 1 = (w.alloc (.cells #[.string a, .int .i64 b, .int .i64 c, .int .i64 d] 129)).heap.size := by simp
    rw [Below.heap_alloc _ _ _ (by simp)]
    rw [e]
    exact heap_alloc_new _ _
  exact ⟨rfl, (((Below.refl _ _).alloc (Nat.le_refl _) _).alloc (by simp) _).alloc (by simp; omega) _⟩
set_option maxRecDepth 100000 in
set_option maxHeartbeats 1000000 in
theorem eqSymbol_yes (w : World) (f : Sm) :
    Calls Try.prog 80 #[f.agg, f.agg] w fun e w' => e = .returned (.bool true) ∧ Below w.heap.size w w' := by
  obtain ⟨a, b, c, d⟩ := f
  unfold Sm.agg
  go_enter Try.func80, Try.ntmps80
  go_wp2
  go_ret
  exact ⟨rfl, (((Below.refl _ _).alloc (Nat.le_refl _) _).alloc (by simp) _)⟩
/-- The slice at address 'a' holds these symbols, in a block below 'B' (where it holds any). -/
def Syms (w : World) (B : Nat) (a : Option Addr) (fs : List Sm) : Prop :=
  0 < fs.length → ∃ b off, a = some ⟨b, off, none⟩ ∧ b < B ∧ ∀ i f, fs[i]? = some f →
    w.cell? ⟨b, off + i * 4, none⟩ = some (.string f.name) ∧ w.cell? ⟨b, off + i * 4 + 1, none⟩ = some (.int .i64 f.bind) ∧ w.cell? ⟨b, off + i * 4 + 2, none⟩ = some (.int .i64 f.loc) ∧ w.cell? ⟨b, off + i * 4 + 3, none⟩ = some (.int .i64 f.value)
section
variable {w w' : World} {B B' : Nat} {a : Option Addr} {fs : List Sm}
theorem Syms.at_ (h : Syms w B a fs) {i : Nat} (hi : i < fs.length) : ∃ b off, a = some ⟨b, off, none⟩ ∧ b < B ∧
    w.cell? ⟨b, off + i * 4, none⟩ = some (.string fs[i].name) ∧ w.cell? ⟨b, off + i * 4 + 1, none⟩ = some (.int .i64 fs[i].bind) ∧ w.cell? ⟨b, off + i * 4 + 2, none⟩ = some (.int .i64 fs[i].loc) ∧ w.cell? ⟨b, off + i * 4 + 3, none⟩ = some (.int .i64 fs[i].value) := by
  obtain ⟨b, off, ha, hb, hc⟩ := h (by omega)
  exact ⟨b, off, ha, hb, hc i _ (List.getElem?_eq_getElem hi)⟩
theorem Syms.keep (h : Syms w B a fs) (hk : ∀ p : Addr, p.block < B → w'.cell? p = w.cell? p) : Syms w' B a fs := fun hn => by
  obtain ⟨b, off, ha, hb, hc⟩ := h hn
  refine ⟨b, off, ha, hb, fun i f hi => ?_⟩
  obtain ⟨c0, c1, c2, c3⟩ := hc i f hi
  exact ⟨(hk _ hb).trans c0, (hk _ hb).trans c1, (hk _ hb).trans c2, (hk _ hb).trans c3⟩
theorem Syms.more (h : Syms w B a fs) (hB : B ≤ B') : Syms w B' a fs := fun hn => by
  obtain ⟨b, off, ha, hb, hc⟩ := h hn
  exact ⟨b, off, ha, by omega, hc⟩
theorem Syms.below (h : Syms w B a fs) (hb : Below B w w') : Syms w' B a fs := h.keep fun _ hp => hb.cell hp
theorem Syms.drewN (h : Syms w B a fs) (n : Nat) : Syms (w.drewN n) B a fs := h
theorem Syms.alloc (h : Syms w B a fs) (hB : B ≤ w.heap.size) (o : Obj) : Syms (w.alloc o) B a fs := h.keep fun p hp => World.cell?_alloc_lt w o p (by omega)
theorem Syms.set {g : Nat} (h : Syms w B (some ⟨g, 0, none⟩) fs) {p : Addr} (hp : g ≠ p.block) (u : Value) : Syms (w.setCell p u) B (some ⟨g, 0, none⟩) fs := fun hn => by
  obtain ⟨b, off, ha, hb, hc⟩ := h hn
  injection ha with ha
  injection ha with e1 e2
  subst e1; subst e2
  have hk : ∀ i, (w.setCell p u).cell? ⟨g, i, none⟩ = w.cell? ⟨g, i, none⟩ := fun i => World.cell?_of_block (Below.heap_setCell w p u g hp)
  refine ⟨g, 0, rfl, hb, fun i f hi => ?_⟩
  obtain ⟨c0, c1, c2, c3⟩ := hc i f hi
  exact ⟨(hk _).trans c0, (hk _).trans c1, (hk _).trans c2, (hk _).trans c3⟩
theorem Syms.nil : Syms w B a [] := fun h => by simp at h
end
set_option maxRecDepth 100000 in
set_option maxHeartbeats 1000000 in
theorem eqSymbolS_yes (w : World) (B1 B2 : Nat) (a1 a2 : Option Addr) (c1 c2 n : Nat) (fs : List Sm) (hn : n = fs.length) (h1 : Syms w B1 a1 fs) (h2 : Syms w B2 a2 fs) (hB1 : B1 ≤ w.heap.size) (hB2 : B2 ≤ w.heap.size) (hlen : n ≤ 9223372036854775807) :
    Calls Try.prog 64 #[.slice a1 n c1, .slice a2 n c2] w fun e w' => e = .returned (.bool true) ∧ Below w.heap.size w w' := by
  have HL := hidden hn
  have H1 := hidden h1
  have H2 := hidden h2
  clear hn h1 h2
  go_enter Try.func64, Try.ntmps64
  go_wp2
  go_loopw [5] (fun i wr => ∃ k : Nat, i = .int .i64 k ∧ k ≤ n ∧ Below w.heap.size w wr) (fun i _ => n - (intOf i).toNat)
  case atStart => exact ⟨0, rfl, by omega, Below.refl _ _⟩
  case round =>
    obtain ⟨k, rfl, hk, hb⟩ := hrel
    by_cases hlt : k < n
    · have hi : (k : Int) < (n : Int) := by omega
      have hkl : k < fs.length := by rw [← HL.out]; exact hlt
      obtain ⟨b1, o1, rfl, _, p0, p1, p2, p3⟩ := (H1.out.below (hb.mono hB1)).at_ hkl
      obtain ⟨b2, o2, rfl, _, q0, q1, q2, q3⟩ := (H2.out.below (hb.mono hB2)).at_ hkl
      obtain ⟨f, hf⟩ : ∃ f, fs[k] = f := ⟨_, rfl⟩
      rw [hf] at p0 p1 p2 p3 q0 q1 q2 q3
      clear hf hkl
      have HC := hidden (eqSymbol_yes wr.drew f)
      go_wp2
      go_still_tail 8, (by kernel_rfl)
      change wpList _ _ _ _ _ wr.drew
      go_wp2_with (go_at_call 80; refine HC.out.mono ?_; rintro e w2 ⟨rfl, hb2⟩)
      have hb3 : Below w.heap.size w w2 := hb.drew.trans (hb2.mono hb.size)
      go_roundw
      case rel => exact ⟨k + 1, by go_num, by omega, hb3⟩
      case measure => simp [intOf]; omega
    · have hi : ¬ (k : Int) < (n : Int) := by omega
      go_wp2
      go_ret
      exact ⟨rfl, hb⟩
theorem Try.info_symbol : (Try.prog.info? 82).map (fun i => (i.zero, i.size, i.bytes)) = some (some (.agg #[.string ⟨#[]⟩, .int .i64 0, .int .i64 0, .int .i64 0]), 4, 40) := by kernel_rfl
/-- The cells of a row of symbols that has been filled up to k. -/
def FilledS (cs : Array Value) (fs : List Sm) (k : Nat) : Prop :=
  cs.size = fs.length * 4 ∧ ∀ i f, i < k → fs[i]? = some f → cs[i * 4]? = some (.string f.name) ∧ cs[i * 4 + 1]? = some (.int .i64 f.bind) ∧ cs[i * 4 + 2]? = some (.int .i64 f.loc) ∧ cs[i * 4 + 3]? = some (.int .i64 f.value)
def putS (cs : Array Value) (k : Nat) (f : Sm) : Array Value :=
  (((cs.setIfInBounds (k * 4) (.string f.name)).setIfInBounds (k * 4 + 1) (.int .i64 f.bind)).setIfInBounds (k * 4 + 2) (.int .i64 f.loc)).setIfInBounds (k * 4 + 3) (.int .i64 f.value)
theorem FilledS.next {cs : Array Value} {fs : List Sm} {k : Nat} {f : Sm} (h : FilledS cs fs k) (hf : fs[k]? = some f) : FilledS (putS cs k f) fs (k + 1) := by
  have hk : k < fs.length := (List.getElem?_eq_some_iff.1 hf).1
  have hs := h.1
  refine ⟨by simp [putS, hs], fun i g hi hg => ?_⟩
  by_cases e : i = k
  · subst e
    rw [hf] at hg; injection hg with hg; subst hg
    unfold putS
    simp only [Array.getElem?_setIfInBounds, Array.size_setIfInBounds, hs]
    refine ⟨?_, ?_, ?_, ?_⟩ <;> simp <;> omega
  · obtain ⟨c0, c1, c2, c3⟩ := h.2 i g (by omega) hg
    unfold putS
    simp only [Array.getElem?_setIfInBounds, Array.size_setIfInBounds]
    refine ⟨?_, ?_, ?_, ?_⟩
    · rw [if_neg (by omega), if_neg (by omega), if_neg (by omega), if_neg (by omega)]; exact c0
    · rw [if_neg (by omega), if_neg (by omega), if_neg (by omega), if_neg (by omega)]; exact c1
    · rw [if_neg (by omega), if_neg (by omega), if_neg (by omega), if_neg (by omega)]; exact c2
    · rw [if_neg (by omega), if_neg (by omega), if_neg (by omega), if_neg (by omega)]; exact c3
theorem FilledS.syms {cs : Array Value} {fs : List Sm} {k g B : Nat} {w : World} (h : FilledS cs fs k) (hk : k = fs.length) (hh : Has w g 82 cs) (hB : g < B) : Syms w B (some ⟨g, 0, none⟩) fs := fun _ => by
  refine ⟨g, 0, rfl, hB, fun i f hi => ?_⟩
  obtain ⟨c0, c1, c2, c3⟩ := h.2 i f (by rw [hk]; exact (List.getElem?_eq_some_iff.1 hi).1) hi
  rw [Nat.zero_add]
  exact ⟨(hh.cell _).trans c0, (hh.cell _).trans c1, (hh.cell _).trans c2, (hh.cell _).trans c3⟩
set_option maxRecDepth 100000 in
set_option maxHeartbeats 1000000 in
theorem toSymbolS_has (w : World) (B : Nat) (a : Option Addr) (c n : Nat) (fs : List Sm) (hn : n = fs.length) (h : Syms w B a fs) (hB : B ≤ w.heap.size) (hlen : n ≤ 1048576) :
    Calls Try.prog 62 #[.slice a n c] w fun e w' => e = .returned (.slice (some ⟨w.heap.size, 0, none⟩) n n) ∧ Syms w' (w.heap.size + 1) (some ⟨w.heap.size, 0, none⟩) fs ∧ w.heap.size < w'.heap.size ∧ Below w.heap.size w w' ∧ (∃ cs, Has w' w.heap.size 82 cs ∧ cs.size = n * 4) := by
  have HL := hidden hn
  have hst : FilledS (madeCells (Value.agg #[.string ⟨#[]⟩, .int .i64 0, .int .i64 0, .int .i64 0]).cells (n * 4)) fs 0 := ⟨by rw [size_madeCells, hn], fun i f hi => by omega⟩
  have HF := hidden hst
  have H1 := hidden h
  have hmk := fun W => run_make_k (P := Try.prog) 26 82 _ 4 40 Try.underlying26 Try.info_symbol .i64 .i64 n (by omega) (by omega) W
  clear hn hst h
  go_enter Try.func62, Try.ntmps62
  go_wp2
  go_loopw [4] (fun i wr => ∃ (k : Nat) (cs : Array Value), k ≤ n ∧ i = .int .i64 k ∧ Hid (FilledS cs fs k) ∧ Has wr w.heap.size 82 cs ∧ Below w.heap.size w wr) (fun i _ => n - (intOf i).toNat)
  case atStart => exact ⟨0, _, Nat.zero_le _, rfl, HF, Has.new _ _ _, (Below.refl _ _).alloc (Nat.le_refl _) _⟩
  case round =>
    obtain ⟨k, cs, hk, rfl, hf, hh, hb⟩ := hrel
    clear hmk HF
    by_cases hlt : k < n
    · have hkl : k < fs.length := by rw [← HL.out]; exact hlt
      obtain ⟨b1, o1, rfl, _, p0, p1, p2, p3⟩ := (H1.out.below (hb.mono hB)).at_ hkl
      obtain ⟨f, hfk⟩ : ∃ f, fs[k] = f := ⟨_, rfl⟩
      rw [hfk] at p0 p1 p2 p3
      have HX : Hid (fs[k]? = some f) := by show _ = _; rw [List.getElem?_eq_getElem hkl, hfk]
      have HC := hidden (toSymbol_any wr f)
      have HFF := hf
      have HH := hidden hh
      clear hfk hf hh hkl
      have hi : (k : Int) < (n : Int) := by omega
      go_wp2_with fail
      refine HC.out.mono ?_
      clear HC
      rintro e w2 ⟨rfl, hb2⟩
      have hh2 : Has w2 w.heap.size 82 cs := HH.out.below hb2 HH.out.lt
      have hcs : k * 4 + 3 < cs.size := by rw [HFF.out.1, ← HL.out]; omega
      obtain ⟨v0, hv0⟩ : ∃ v, cs[k * 4]? = some v := ⟨_, Array.getElem?_eq_getElem (by omega)⟩
      obtain ⟨v1, hv1⟩ : ∃ v, cs[k * 4 + 1]? = some v := ⟨_, Array.getElem?_eq_getElem (by omega)⟩
      obtain ⟨v2, hv2⟩ : ∃ v, cs[k * 4 + 2]? = some v := ⟨_, Array.getElem?_eq_getElem (by omega)⟩
      obtain ⟨v3, hv3⟩ : ∃ v, cs[k * 4 + 3]? = some v := ⟨_, Array.getElem?_eq_getElem (by omega)⟩
      have e0 := (hh2.cell (k * 4)).trans hv0
      have e1 := (hh2.cell (k * 4 + 1)).trans hv1
      have e2 := (hh2.cell (k * 4 + 2)).trans hv2
      have e3 := (hh2.cell (k * 4 + 3)).trans hv3
      have f0 := hh2.free (k * 4)
      have f1 := hh2.free (k * 4 + 1)
      have f2 := hh2.free (k * 4 + 2)
      have f3 := hh2.free (k * 4 + 3)
      have hb3 : Below w.heap.size w w2 := hb.trans (hb2.mono hb.size)
      have HN := hidden (HFF.out.next HX.out)
      have hput : Has ((((w2.setCell ⟨w.heap.size, k * 4, none⟩ (.string f.name)).setCell ⟨w.heap.size, k * 4 + 1, none⟩ (.int .i64 f.bind)).setCell ⟨w.heap.size, k * 4 + 2, none⟩ (.int .i64 f.loc)).setCell ⟨w.heap.size, k * 4 + 3, none⟩ (.int .i64 f.value)) w.heap.size 82 (putS cs k f) :=
        (((hh2.put _ _).put _ _).put _ _).put _ _
      have hbp := (((hb3.setCell (p := ⟨w.heap.size, k * 4, none⟩) (Nat.le_refl _) (.string f.name)).setCell (p := ⟨w.heap.size, k * 4 + 1, none⟩) (Nat.le_refl _) (.int .i64 f.bind)).setCell (p := ⟨w.heap.size, k * 4 + 2, none⟩) (Nat.le_refl _) (.int .i64 f.loc)).setCell (p := ⟨w.heap.size, k * 4 + 3, none⟩) (Nat.le_refl _) (.int .i64 f.value)
      clear hh2 hcs hv0 hv1 hv2 hv3 hb hb2 hb3 HFF HH
      unfold Sm.agg
      go_wp2_with fail
      go_roundw
      case rel => exact ⟨k + 1, _, by omega, by go_num, HN, hput, hbp⟩
      case measure => simp [intOf]; omega
    · have hkl : k = fs.length := by rw [← HL.out]; omega
      have HA := hidden (hf.out.syms hkl hh (Nat.lt_succ_self _))
      have hcs : cs.size = n * 4 := by rw [hf.out.1, ← HL.out]
      have hlt' := hh.lt
      have hi : ¬ (k : Int) < (n : Int) := by omega
      clear hkl hf
      go_wp2
      go_ret
      exact ⟨rfl, HA.out, hlt', hb, cs, hh, hcs⟩
theorem toSymbolS_any (w : World) (B : Nat) (a : Option Addr) (c n : Nat) (fs : List Sm) (hn : n = fs.length) (h : Syms w B a fs) (hB : B ≤ w.heap.size) (hlen : n ≤ 1048576) :
    Calls Try.prog 62 #[.slice a n c] w fun e w' => e = .returned (.slice (some ⟨w.heap.size, 0, none⟩) n n) ∧ Syms w' (w.heap.size + 1) (some ⟨w.heap.size, 0, none⟩) fs ∧ w.heap.size < w'.heap.size ∧ Below w.heap.size w w' :=
  (toSymbolS_has w B a c n fs hn h hB hlen).mono fun _ _ ⟨h1, h2, h3, h4, _⟩ => ⟨h1, h2, h3, h4⟩

end Go.Proofs.Ytiocchmlmcoieaa
/- Sections: plain words, and the model's functions of chapter 3. -/
namespace Go.Proofs.Ytiocchmlmcoieaa
open Go.RowKit

/-- How many bytes a fixup of a kind fills. -/
def wideOf (k : Int) : Int := if k = 1 then 1 else if k = 2 then 2 else if k = 3 then 4 else 0
theorem wideOf_bounds (k : Int) : 0 ≤ wideOf k ∧ wideOf k ≤ 4 := by unfold wideOf; split <;> (try split) <;> (try split) <;> omega
theorem fixupWide'_any (k : Int) (w : World) : Calls Try.prog 73 #[.int .i64 k] w fun e w' => e = .returned (.int .i64 (wideOf k)) ∧ Below w.heap.size w w' := by
  by_cases h1 : k < 1
  · have e : wideOf k = 0 := by unfold wideOf; rw [if_neg (by omega), if_neg (by omega), if_neg (by omega)]
    rw [e]; clear e
    go_enter Try.func73, Try.ntmps73
    go_wp2_with (go_at_call 35; (first | (with_reducible refine (l1In_yes _ _ _ (by omega) (by omega) _).mono ?_) | (with_reducible refine (l1In_low _ _ _ (by omega) _).mono ?_) | (with_reducible refine (l1In_high _ _ _ (by omega) _).mono ?_)); rintro e w' ⟨rfl, rfl⟩)
    go_ret
    exact ⟨rfl, Below.refl _ _⟩
  by_cases h3 : 3 < k
  · have e : wideOf k = 0 := by unfold wideOf; rw [if_neg (by omega), if_neg (by omega), if_neg (by omega)]
    rw [e]; clear e
    go_enter Try.func73, Try.ntmps73
    go_wp2_with (go_at_call 35; (first | (with_reducible refine (l1In_yes _ _ _ (by omega) (by omega) _).mono ?_) | (with_reducible refine (l1In_low _ _ _ (by omega) _).mono ?_) | (with_reducible refine (l1In_high _ _ _ (by omega) _).mono ?_)); rintro e w' ⟨rfl, rfl⟩)
    go_ret
    exact ⟨rfl, Below.refl _ _⟩
  rcases (show k = 1 ∨ k = 2 ∨ k = 3 by omega) with rfl | rfl | rfl
  · clear h1 h3
    go_enter Try.func73, Try.ntmps73
    go_wp2_with (go_at_call 35; (first | (with_reducible refine (l1In_yes _ _ _ (by omega) (by omega) _).mono ?_) | (with_reducible refine (l1In_low _ _ _ (by omega) _).mono ?_) | (with_reducible refine (l1In_high _ _ _ (by omega) _).mono ?_)); rintro e w' ⟨rfl, rfl⟩)
    go_ret
    exact ⟨rfl, (Below.refl _ _).alloc (Nat.le_refl _) _⟩
  · clear h1 h3
    go_enter Try.func73, Try.ntmps73
    go_wp2_with (go_at_call 35; (first | (with_reducible refine (l1In_yes _ _ _ (by omega) (by omega) _).mono ?_) | (with_reducible refine (l1In_low _ _ _ (by omega) _).mono ?_) | (with_reducible refine (l1In_high _ _ _ (by omega) _).mono ?_)); rintro e w' ⟨rfl, rfl⟩)
    go_ret
    exact ⟨rfl, (Below.refl _ _).alloc (Nat.le_refl _) _⟩
  · clear h1 h3
    go_enter Try.func73, Try.ntmps73
    go_wp2_with (go_at_call 35; (first | (with_reducible refine (l1In_yes _ _ _ (by omega) (by omega) _).mono ?_) | (with_reducible refine (l1In_low _ _ _ (by omega) _).mono ?_) | (with_reducible refine (l1In_high _ _ _ (by omega) _).mono ?_)); rintro e w' ⟨rfl, rfl⟩)
    go_ret
    exact ⟨rfl, (Below.refl _ _).alloc (Nat.le_refl _) _⟩
/-- A section, as plain data. -/
structure Sx where
  name : ByteArray
  kind : Int
  align : Int
  bytes : List Int
  size : Int
  fixs : List Fx
def Sx.agg (s : Sx) (a1 : Option Addr) (c1 : Nat) (a2 : Option Addr) (c2 : Nat) : Value :=
  .agg #[.string s.name, .int .i64 s.kind, .int .i64 s.align, .slice a1 s.bytes.length c1, .int .i64 s.size, .slice a2 s.fixs.length c2]
def Sx.long (s : Sx) : Int := if s.kind = 3 then s.size else (s.bytes.length : Int)
theorem sectionSize'_any (w : World) (s : Sx) (a1 : Option Addr) (c1 : Nat) (a2 : Option Addr) (c2 : Nat) (hl : s.bytes.length ≤ 9223372036854775807) :
    Calls Try.prog 37 #[s.agg a1 c1 a2 c2] w fun e w' => e = .returned (.int .i64 s.long) ∧ Below w.heap.size w w' := by
  obtain ⟨nm, k, al, bs, sz, fs⟩ := s
  unfold Sx.agg Sx.long
  simp only at hl ⊢
  generalize bs.length = nb at hl ⊢
  generalize fs.length = nf
  by_cases hk : k = 3
  · subst hk
    rw [if_pos rfl]
    go_enter Try.func37, Try.ntmps37
    go_wp2
    go_ret
    exact ⟨rfl, (Below.refl _ _).alloc (Nat.le_refl _) _⟩
  · rw [if_neg hk]
    have hk' : (k == 3) = false := by simpa using hk
    clear hk
    go_enter Try.func37, Try.ntmps37
    go_wp2
    go_ret
    exact ⟨rfl, (Below.refl _ _).alloc (Nat.le_refl _) _⟩
def fixOk (n many e : Int) (f : Fx) : Bool :=
  decide (wideOf f.kind ≠ 0) && decide (0 ≤ f.to) && decide (f.to < many) && decide (-1000 ≤ f.add ∧ f.add ≤ 1000) && decide (e ≤ f.pl ∧ f.pl ≤ n - wideOf f.kind)
def fixsOk (n many : Int) : Int → List Fx → Bool
  | _, [] => true
  | e, f :: r => fixOk n many e f && fixsOk n many (f.pl + wideOf f.kind) r
def sectOk (s : Sx) (many : Int) : Bool :=
  nameOk s.name.data.toList && decide (1 ≤ s.kind ∧ s.kind ≤ 3) && decide (s.align = 1 ∨ s.align = 2 ∨ s.align = 4 ∨ s.align = 8) && decide (s.bytes.length ≤ 48) && decide (s.fixs.length ≤ 6) && decide (0 ≤ s.size ∧ s.size ≤ 48) &&
  (if s.kind = 3 then decide (s.bytes.length = 0) && decide (s.fixs.length = 0) else fixsOk s.bytes.length many 0 s.fixs && decide (s.size = 0))
set_option maxHeartbeats 2000000 in
theorem sectionValid'_any (w : World) (B : Nat) (s : Sx) (many : Int) (a1 : Option Addr) (c1 : Nat) (a2 : Option Addr) (c2 : Nat) (h2 : Fixs w B a2 s.fixs) (hB : B ≤ w.heap.size) (hname : s.name.size ≤ maxLen) (hl1 : s.bytes.length ≤ 9223372036854775807) (hl2 : s.fixs.length ≤ 9223372036854775807) :
    Calls Try.prog 52 #[s.agg a1 c1 a2 c2, .int .i64 many] w fun e w' => e = .returned (.bool (sectOk s many)) ∧ Below w.heap.size w w' := by
  obtain ⟨nm, kind, al, bs, sz, fs⟩ := s
  unfold Sx.agg
  simp only at h2 hname hl1 hl2 ⊢
  have HNV := hidden (fun W => nameValid'_any nm W hname)
  have HAL := hidden (fun W => alignUp'_any 0 al W)
  obtain ⟨nb, hnb⟩ : ∃ n, n = bs.length := ⟨_, rfl⟩
  obtain ⟨nf, hnf⟩ : ∃ n, n = fs.length := ⟨_, rfl⟩
  obtain ⟨ok, hok⟩ : ∃ ok, ok = sectOk ⟨nm, kind, al, bs, sz, fs⟩ many := ⟨_, rfl⟩
  have HOK : Hid (ok = (nameOk nm.data.toList && decide (1 ≤ kind ∧ kind ≤ 3) && decide (al = 1 ∨ al = 2 ∨ al = 4 ∨ al = 8) && decide (nb ≤ 48) && decide (nf ≤ 6) && decide (0 ≤ sz ∧ sz ≤ 48) &&
      (if kind = 3 then decide (nb = 0) && decide (nf = 0) else fixsOk nb many 0 fs && decide (sz = 0)))) := by
    show _ = _; rw [hok, hnb, hnf]; rfl
  rw [← hok, ← hnb, ← hnf]
  rw [← hnb] at hl1
  rw [← hnf] at hl2
  have HNF := hidden hnf
  have H2 := hidden h2
  clear hok hnb hnf h2 hname
  have hup : upTo 0 al = if al = 1 ∨ al = 2 ∨ al = 4 ∨ al = 8 then 0 else -1 := by
    unfold upTo
    rw [if_neg (by omega)]
    split
    · rename_i h; rcases h with rfl | rfl | rfl | rfl <;> rfl
    · rfl
  rw [hup] at HAL
  clear hup
  rcases hn : nameOk nm.data.toList with _ | _
  · rw [hn] at HNV HOK
    have HF : Hid (ok = false) := by show _ = _; rw [HOK.out]; simp
    clear HOK H2
    go_enter Try.func52, Try.ntmps52
    go_wp2_with (first | (go_at_call 72; refine (HNV.out _).mono ?_; rintro e w' ⟨rfl, rfl⟩))
    go_ret
    exact ⟨ret_bool HF.out.symm, (Below.refl _ _).alloc (Nat.le_refl _) _⟩
  rw [hn] at HNV HOK
  clear hn
  by_cases k1 : kind < 1
  · have HF : Hid (ok = false) := by show _ = _; rw [HOK.out]; simp; omega
    clear HOK H2
    go_enter Try.func52, Try.ntmps52
    go_wp2_with (first | (go_at_call 72; refine (HNV.out _).mono ?_; rintro e w' ⟨rfl, rfl⟩) | (go_at_call 35; (first | (with_reducible refine (l1In_yes _ _ _ (by omega) (by omega) _).mono ?_) | (with_reducible refine (l1In_low _ _ _ (by omega) _).mono ?_) | (with_reducible refine (l1In_high _ _ _ (by omega) _).mono ?_)); rintro e w' ⟨rfl, rfl⟩))
    go_ret
    exact ⟨ret_bool HF.out.symm, (Below.refl _ _).alloc (Nat.le_refl _) _⟩
  by_cases k3 : 3 < kind
  · have HF : Hid (ok = false) := by show _ = _; rw [HOK.out]; simp; omega
    clear HOK H2
    go_enter Try.func52, Try.ntmps52
    go_wp2_with (first | (go_at_call 72; refine (HNV.out _).mono ?_; rintro e w' ⟨rfl, rfl⟩) | (go_at_call 35; (first | (with_reducible refine (l1In_yes _ _ _ (by omega) (by omega) _).mono ?_) | (with_reducible refine (l1In_low _ _ _ (by omega) _).mono ?_) | (with_reducible refine (l1In_high _ _ _ (by omega) _).mono ?_)); rintro e w' ⟨rfl, rfl⟩))
    go_ret
    exact ⟨ret_bool HF.out.symm, (Below.refl _ _).alloc (Nat.le_refl _) _⟩
  by_cases ha : al = 1 ∨ al = 2 ∨ al = 4 ∨ al = 8
  case neg =>
    rw [if_neg ha] at HAL
    have HF : Hid (ok = false) := by show _ = _; rw [HOK.out]; simp; omega
    clear HOK H2
    go_enter Try.func52, Try.ntmps52
    go_wp2_with (first | (go_at_call 72; refine (HNV.out _).mono ?_; rintro e w' ⟨rfl, rfl⟩) | (go_at_call 35; (first | (with_reducible refine (l1In_yes _ _ _ (by omega) (by omega) _).mono ?_) | (with_reducible refine (l1In_low _ _ _ (by omega) _).mono ?_) | (with_reducible refine (l1In_high _ _ _ (by omega) _).mono ?_)); rintro e w' ⟨rfl, rfl⟩) | (go_at_call 36; refine (HAL.out _).mono ?_; rintro e w' ⟨rfl, rfl⟩))
    go_ret
    exact ⟨ret_bool HF.out.symm, (Below.refl _ _).alloc (Nat.le_refl _) _⟩
  rw [if_pos ha] at HAL
  by_cases hb : 48 < nb
  · have hb' : (48 : Int) < (nb : Int) := by omega
    have HF : Hid (ok = false) := by show _ = _; rw [HOK.out]; simp; omega
    clear HOK H2
    go_enter Try.func52, Try.ntmps52
    go_wp2_with (first | (go_at_call 72; refine (HNV.out _).mono ?_; rintro e w' ⟨rfl, rfl⟩) | (go_at_call 35; (first | (with_reducible refine (l1In_yes _ _ _ (by omega) (by omega) _).mono ?_) | (with_reducible refine (l1In_low _ _ _ (by omega) _).mono ?_) | (with_reducible refine (l1In_high _ _ _ (by omega) _).mono ?_)); rintro e w' ⟨rfl, rfl⟩) | (go_at_call 36; refine (HAL.out _).mono ?_; rintro e w' ⟨rfl, rfl⟩))
    go_ret
    exact ⟨ret_bool HF.out.symm, (Below.refl _ _).alloc (Nat.le_refl _) _⟩
  have hb' : ¬ (48 : Int) < (nb : Int) := by omega
  by_cases hf : 6 < nf
  · have hf' : (6 : Int) < (nf : Int) := by omega
    have HF : Hid (ok = false) := by show _ = _; rw [HOK.out]; simp; omega
    clear HOK H2
    go_enter Try.func52, Try.ntmps52
    go_wp2_with (first | (go_at_call 72; refine (HNV.out _).mono ?_; rintro e w' ⟨rfl, rfl⟩) | (go_at_call 35; (first | (with_reducible refine (l1In_yes _ _ _ (by omega) (by omega) _).mono ?_) | (with_reducible refine (l1In_low _ _ _ (by omega) _).mono ?_) | (with_reducible refine (l1In_high _ _ _ (by omega) _).mono ?_)); rintro e w' ⟨rfl, rfl⟩) | (go_at_call 36; refine (HAL.out _).mono ?_; rintro e w' ⟨rfl, rfl⟩))
    go_ret
    exact ⟨ret_bool HF.out.symm, (Below.refl _ _).alloc (Nat.le_refl _) _⟩
  have hf' : ¬ (6 : Int) < (nf : Int) := by omega
  by_cases s0 : sz < 0
  · have HF : Hid (ok = false) := by show _ = _; rw [HOK.out]; simp; omega
    clear HOK H2
    go_enter Try.func52, Try.ntmps52
    go_wp2_with (first | (go_at_call 72; refine (HNV.out _).mono ?_; rintro e w' ⟨rfl, rfl⟩) | (go_at_call 35; (first | (with_reducible refine (l1In_yes _ _ _ (by omega) (by omega) _).mono ?_) | (with_reducible refine (l1In_low _ _ _ (by omega) _).mono ?_) | (with_reducible refine (l1In_high _ _ _ (by omega) _).mono ?_)); rintro e w' ⟨rfl, rfl⟩) | (go_at_call 36; refine (HAL.out _).mono ?_; rintro e w' ⟨rfl, rfl⟩))
    go_ret
    exact ⟨ret_bool HF.out.symm, (Below.refl _ _).alloc (Nat.le_refl _) _⟩
  by_cases s1 : 48 < sz
  · have HF : Hid (ok = false) := by show _ = _; rw [HOK.out]; simp; omega
    clear HOK H2
    go_enter Try.func52, Try.ntmps52
    go_wp2_with (first | (go_at_call 72; refine (HNV.out _).mono ?_; rintro e w' ⟨rfl, rfl⟩) | (go_at_call 35; (first | (with_reducible refine (l1In_yes _ _ _ (by omega) (by omega) _).mono ?_) | (with_reducible refine (l1In_low _ _ _ (by omega) _).mono ?_) | (with_reducible refine (l1In_high _ _ _ (by omega) _).mono ?_)); rintro e w' ⟨rfl, rfl⟩) | (go_at_call 36; refine (HAL.out _).mono ?_; rintro e w' ⟨rfl, rfl⟩))
    go_ret
    exact ⟨ret_bool HF.out.symm, (Below.refl _ _).alloc (Nat.le_refl _) _⟩
  by_cases hk : kind = 3
  · subst hk
    have HR : Hid (ok = (decide (nb = 0) && decide (nf = 0))) := by
      show _ = _; rw [HOK.out]; simp; omega
    clear HOK H2 k1 k3
    by_cases b0 : nb = 0
    · have b0' : ((nb : Int) == 0) = true := by simp [b0]
      by_cases f0 : nf = 0
      · have f0' : ((nf : Int) == 0) = true := by simp [f0]
        have HF : Hid (ok = true) := by show _ = _; rw [HR.out]; simp [b0, f0]
        clear HR b0 f0
        go_enter Try.func52, Try.ntmps52
        go_wp2_with (first | (go_at_call 72; refine (HNV.out _).mono ?_; rintro e w' ⟨rfl, rfl⟩) | (go_at_call 35; (first | (with_reducible refine (l1In_yes _ _ _ (by omega) (by omega) _).mono ?_) | (with_reducible refine (l1In_low _ _ _ (by omega) _).mono ?_) | (with_reducible refine (l1In_high _ _ _ (by omega) _).mono ?_)); rintro e w' ⟨rfl, rfl⟩) | (go_at_call 36; refine (HAL.out _).mono ?_; rintro e w' ⟨rfl, rfl⟩))
        go_ret
        exact ⟨ret_bool HF.out.symm, (Below.refl _ _).alloc (Nat.le_refl _) _⟩
      · have f0' : ((nf : Int) == 0) = false := by simp; omega
        have HF : Hid (ok = false) := by show _ = _; rw [HR.out]; simp [b0, f0]
        clear HR b0 f0
        go_enter Try.func52, Try.ntmps52
        go_wp2_with (first | (go_at_call 72; refine (HNV.out _).mono ?_; rintro e w' ⟨rfl, rfl⟩) | (go_at_call 35; (first | (with_reducible refine (l1In_yes _ _ _ (by omega) (by omega) _).mono ?_) | (with_reducible refine (l1In_low _ _ _ (by omega) _).mono ?_) | (with_reducible refine (l1In_high _ _ _ (by omega) _).mono ?_)); rintro e w' ⟨rfl, rfl⟩) | (go_at_call 36; refine (HAL.out _).mono ?_; rintro e w' ⟨rfl, rfl⟩))
        go_ret
        exact ⟨ret_bool HF.out.symm, (Below.refl _ _).alloc (Nat.le_refl _) _⟩
    · have b0' : ((nb : Int) == 0) = false := by simp; omega
      have HF : Hid (ok = false) := by show _ = _; rw [HR.out]; simp [b0]
      clear HR b0
      go_enter Try.func52, Try.ntmps52
      go_wp2_with (first | (go_at_call 72; refine (HNV.out _).mono ?_; rintro e w' ⟨rfl, rfl⟩) | (go_at_call 35; (first | (with_reducible refine (l1In_yes _ _ _ (by omega) (by omega) _).mono ?_) | (with_reducible refine (l1In_low _ _ _ (by omega) _).mono ?_) | (with_reducible refine (l1In_high _ _ _ (by omega) _).mono ?_)); rintro e w' ⟨rfl, rfl⟩) | (go_at_call 36; refine (HAL.out _).mono ?_; rintro e w' ⟨rfl, rfl⟩))
      go_ret
      exact ⟨ret_bool HF.out.symm, (Below.refl _ _).alloc (Nat.le_refl _) _⟩
  have hk' : (kind == 3) = false := by simpa using hk
  have HR : Hid (ok = (fixsOk nb many 0 fs && decide (sz = 0))) := by
    show _ = _; rw [HOK.out, if_neg hk]; simp; omega
  clear HOK hk
  go_enter Try.func52, Try.ntmps52
  go_wp2_with (first | (go_at_call 72; refine (HNV.out _).mono ?_; rintro e w' ⟨rfl, rfl⟩) | (go_at_call 35; (first | (with_reducible refine (l1In_yes _ _ _ (by omega) (by omega) _).mono ?_) | (with_reducible refine (l1In_low _ _ _ (by omega) _).mono ?_) | (with_reducible refine (l1In_high _ _ _ (by omega) _).mono ?_)); rintro e w' ⟨rfl, rfl⟩) | (go_at_call 36; refine (HAL.out _).mono ?_; rintro e w' ⟨rfl, rfl⟩))
  go_loopw [5, 6] (fun en i wr => ∃ (k : Nat) (e : Int), i = .int .i64 k ∧ en = .int .i64 e ∧ k ≤ nf ∧ 0 ≤ e ∧ e ≤ 48 ∧ Hid (fixsOk nb many 0 fs = fixsOk nb many e (fs.drop k)) ∧ Below (w.heap.size + 1) (w.alloc (.cells #[.string nm, .int .i64 kind, .int .i64 al, .slice a1 nb c1, .int .i64 sz, .slice a2 nf c2] 42)) wr) (fun _ i _ => nf - (intOf i).toNat)
  case atStart => exact ⟨0, 0, rfl, rfl, Nat.zero_le _, by omega, by omega, hidden (by simp), Below.refl _ _⟩
  case round =>
    obtain ⟨k, e, rfl, rfl, hk, he0, he1, hfo, hbw⟩ := hrel
    have hbx : Below w.heap.size w wr := ((Below.refl _ _).alloc (Nat.le_refl _) _).trans (hbw.mono (Nat.le_succ _))
    have HX : Hid (∀ (W : World), Below wr.heap.size wr W → ∀ j, W.cell? ⟨w.heap.size, j, none⟩ = (#[.string nm, .int .i64 kind, .int .i64 al, .slice a1 nb c1, .int .i64 sz, .slice a2 nf c2] : Array Value)[j]?) := fun W hW j => by
      have s0 := hbw.size
      have s1 : (w.alloc (.cells #[.string nm, .int .i64 kind, .int .i64 al, .slice a1 nb c1, .int .i64 sz, .slice a2 nf c2] 42)).heap.size = w.heap.size + 1 := by simp
      rw [hW.cell (by show w.heap.size < _; omega), hbw.cell (by show w.heap.size < _; omega)]
      exact (Has.new w 42 _).cell j
    have q3 : wr.cell? ⟨w.heap.size, 3, none⟩ = some (.slice a1 nb c1) := HX.out wr (Below.refl _ _) 3
    have q4 : wr.cell? ⟨w.heap.size, 4, none⟩ = some (.int .i64 sz) := HX.out wr (Below.refl _ _) 4
    have q5 : wr.cell? ⟨w.heap.size, 5, none⟩ = some (.slice a2 nf c2) := HX.out wr (Below.refl _ _) 5
    by_cases hlt : k < nf
    · have hi : (k : Int) < (nf : Int) := by omega
      have hkl : k < fs.length := by rw [← HNF.out]; exact hlt
      obtain ⟨b2, o2, rfl, _, p0, p1, p2, p3⟩ := (H2.out.below (hbx.mono hB)).at_ hkl
      obtain ⟨g, hfk⟩ : ∃ g, fs[k] = g := ⟨_, rfl⟩
      rw [hfk] at p0 p1 p2 p3
      have HD : Hid (fs.drop k = g :: fs.drop (k + 1)) := by show _ = _; rw [List.drop_eq_getElem_cons hkl, hfk]
      obtain ⟨pl, gk, to, ad⟩ := g
      simp only at p0 p1 p2 p3
      have HFW := hidden (fun W => fixupWide'_any gk W)
      have HG : Hid (fixsOk nb many 0 fs = (fixOk nb many e ⟨pl, gk, to, ad⟩ && fixsOk nb many (pl + wideOf gk) (fs.drop (k + 1)))) := by
        show _ = _; rw [hfo.out, HD.out]; rfl
      obtain ⟨w0, w4⟩ := wideOf_bounds gk
      obtain ⟨wd, hwd⟩ : ∃ x, wideOf gk = x := ⟨_, rfl⟩
      rw [hwd] at HFW HG w0 w4
      have HGO : Hid (fixOk nb many e ⟨pl, gk, to, ad⟩ = (decide (wd ≠ 0) && decide (0 ≤ to) && decide (to < many) && decide (-1000 ≤ ad ∧ ad ≤ 1000) && decide (e ≤ pl ∧ pl ≤ nb - wd))) := by
        show _ = _; unfold fixOk; simp only [hwd]
      clear hfk hkl hfo HD hwd
      go_wp2_with fail
      refine (HFW.out _).mono ?_
      clear HFW
      rintro e3 w3 ⟨rfl, hb3⟩
      have s1 : (wr.alloc (.cells #[.int .i64 pl, .int .i64 gk, .int .i64 to, .int .i64 ad] 119)).heap.size = wr.heap.size + 1 := by simp
      have hb4 : Below wr.heap.size wr w3 := ((Below.refl _ _).alloc (Nat.le_refl _) _).trans (hb3.mono (by rw [s1]; omega))
      have RX : ∀ j, w3.cell? ⟨wr.heap.size, j, none⟩ = (#[.int .i64 pl, .int .i64 gk, .int .i64 to, .int .i64 ad] : Array Value)[j]? := fun j => by
        rw [hb3.cell (by show wr.heap.size < _; rw [s1]; omega)]
        exact (Has.new wr 119 _).cell j
      have r0 : w3.cell? ⟨wr.heap.size, 0, none⟩ = some (.int .i64 pl) := RX 0
      have r2 : w3.cell? ⟨wr.heap.size, 2, none⟩ = some (.int .i64 to) := RX 2
      have r3 : w3.cell? ⟨wr.heap.size, 3, none⟩ = some (.int .i64 ad) := RX 3
      have t3 : w3.cell? ⟨w.heap.size, 3, none⟩ = some (.slice a1 nb c1) := HX.out w3 hb4 3
      have hbx4 : Below w.heap.size w w3 := hbx.trans (hb4.mono hbx.size)
      have hbw4 := hbw.trans (hb4.mono (by have := hbw.size; simpa using this))
      clear RX s1 hb3 hb4 q3 q4 q5 p0 p1 p2 p3 hbx hbw HX
      by_cases z0 : wd = 0
      · have z0' : (wd == 0) = true := by simp [z0]
        have HF : Hid (ok = false) := by show _ = _; rw [HR.out, HG.out, HGO.out]; simp [z0]
        clear HG HGO HR z0
        go_wp2_with fail
        go_ret
        exact ⟨ret_bool HF.out.symm, hbx4⟩
      have z0' : (wd == 0) = false := by simpa using z0
      by_cases z1 : to < 0
      · have HF : Hid (ok = false) := by show _ = _; rw [HR.out, HG.out, HGO.out]; simp; omega
        clear HG HGO HR z0
        go_wp2_with fail
        go_ret
        exact ⟨ret_bool HF.out.symm, hbx4⟩
      by_cases z2 : many ≤ to
      · have HF : Hid (ok = false) := by show _ = _; rw [HR.out, HG.out, HGO.out]; simp; omega
        clear HG HGO HR z0
        go_wp2_with fail
        go_ret
        exact ⟨ret_bool HF.out.symm, hbx4⟩
      by_cases z3 : ad < -1000
      · have HF : Hid (ok = false) := by show _ = _; rw [HR.out, HG.out, HGO.out]; simp; omega
        clear HG HGO HR z0
        go_wp2_with (go_at_call 35; (first | (with_reducible refine (l1In_yes _ _ _ (by omega) (by omega) _).mono ?_) | (with_reducible refine (l1In_low _ _ _ (by omega) _).mono ?_) | (with_reducible refine (l1In_high _ _ _ (by omega) _).mono ?_)); rintro e w' ⟨rfl, rfl⟩)
        go_ret
        exact ⟨ret_bool HF.out.symm, hbx4⟩
      by_cases z4 : 1000 < ad
      · have HF : Hid (ok = false) := by show _ = _; rw [HR.out, HG.out, HGO.out]; simp; omega
        clear HG HGO HR z0
        go_wp2_with (go_at_call 35; (first | (with_reducible refine (l1In_yes _ _ _ (by omega) (by omega) _).mono ?_) | (with_reducible refine (l1In_low _ _ _ (by omega) _).mono ?_) | (with_reducible refine (l1In_high _ _ _ (by omega) _).mono ?_)); rintro e w' ⟨rfl, rfl⟩)
        go_ret
        exact ⟨ret_bool HF.out.symm, hbx4⟩
      by_cases z5 : pl < e
      · have HF : Hid (ok = false) := by show _ = _; rw [HR.out, HG.out, HGO.out]; simp; omega
        clear HG HGO HR z0
        go_wp2_with (go_at_call 35; (first | (with_reducible refine (l1In_yes _ _ _ (by omega) (by omega) _).mono ?_) | (with_reducible refine (l1In_low _ _ _ (by omega) _).mono ?_) | (with_reducible refine (l1In_high _ _ _ (by omega) _).mono ?_)); rintro e w' ⟨rfl, rfl⟩)
        go_ret
        exact ⟨ret_bool HF.out.symm, hbx4⟩
      by_cases z6 : (nb : Int) - wd < pl
      · have HF : Hid (ok = false) := by show _ = _; rw [HR.out, HG.out, HGO.out]; simp; omega
        clear HG HGO HR z0
        go_wp2_with (go_at_call 35; (first | (with_reducible refine (l1In_yes _ _ _ (by omega) (by omega) _).mono ?_) | (with_reducible refine (l1In_low _ _ _ (by omega) _).mono ?_) | (with_reducible refine (l1In_high _ _ _ (by omega) _).mono ?_)); rintro e w' ⟨rfl, rfl⟩)
        go_ret
        exact ⟨ret_bool HF.out.symm, hbx4⟩
      have HN : Hid (fixsOk nb many 0 fs = fixsOk nb many (pl + wd) (fs.drop (k + 1))) := by
        show _ = _
        have : fixOk nb many e ⟨pl, gk, to, ad⟩ = true := by rw [HGO.out]; simp; omega
        rw [HG.out, this, Bool.true_and]
      clear HG HGO z0
      go_wp2_with (go_at_call 35; (first | (with_reducible refine (l1In_yes _ _ _ (by omega) (by omega) _).mono ?_) | (with_reducible refine (l1In_low _ _ _ (by omega) _).mono ?_) | (with_reducible refine (l1In_high _ _ _ (by omega) _).mono ?_)); rintro e w' ⟨rfl, rfl⟩)
      go_roundw
      case rel => exact ⟨k + 1, pl + wd, by go_num, by go_num, by omega, by omega, by omega, HN, hbw4⟩
      case measure => simp [intOf]; omega
    · have hi : ¬ (k : Int) < (nf : Int) := by omega
      have HF : Hid (ok = decide (sz = 0)) := by
        show _ = _
        have hd : fs.drop k = [] := List.drop_eq_nil_of_le (by rw [← HNF.out]; omega)
        rw [HR.out, hfo.out, hd]; simp [fixsOk]
      clear HR hfo
      by_cases z : sz = 0
      · have z' : (sz == 0) = true := by simp [z]
        have HT : Hid (ok = true) := by show _ = _; rw [HF.out]; simp [z]
        clear HF z HX q3
        go_wp2_with fail
        go_ret
        exact ⟨ret_bool HT.out.symm, hbx⟩
      · have z' : (sz == 0) = false := by simpa using z
        have HT : Hid (ok = false) := by show _ = _; rw [HF.out]; simp [z]
        clear HF z HX q3
        go_wp2_with fail
        go_ret
        exact ⟨ret_bool HT.out.symm, hbx⟩

end Go.Proofs.Ytiocchmlmcoieaa
/- The laws' own functions on sections: their sizes, copies, comparisons. laws.eqSection: equal sections are found equal. -/
/- The laws' own functions on sections: their sizes, copies, comparisons. -/
namespace Go.Proofs.Ytiocchmlmcoieaa
open Go.RowKit

/-- What is left of a number, less so many. -/
def leftOf (left : Int) (n : Nat) : Int := if left < n then -1 else left - n
theorem szByteS_any (w : World) (a : Option Addr) (c n : Nat) (left : Int) (h0 : 0 ≤ left) (h1 : left ≤ 1048576) (hn : n ≤ 9223372036854775807) :
    Calls Try.prog 86 #[.slice a n c, .int .i64 left] w fun e w' => e = .returned (.int .i64 (leftOf left n)) ∧ w = w' := by
  unfold leftOf
  by_cases h : left < n
  · rw [if_pos h]
    have h' : left - (n : Int) < 0 := by omega
    go_enter Try.func86, Try.ntmps86
    go_wp2
    go_ret
    exact ⟨rfl, rfl⟩
  · rw [if_neg h]
    have h' : ¬ left - (n : Int) < 0 := by omega
    go_enter Try.func86, Try.ntmps86
    go_wp2
    go_ret
    exact ⟨rfl, rfl⟩
theorem szFixupS_any (w : World) (a : Option Addr) (c n : Nat) (left : Int) (h0 : 0 ≤ left) (h1 : left ≤ 1048576) (hn : n ≤ 9223372036854775807) :
    Calls Try.prog 87 #[.slice a n c, .int .i64 left] w fun e w' => e = .returned (.int .i64 (leftOf left n)) ∧ w = w' := by
  unfold leftOf
  by_cases h : left < n
  · rw [if_pos h]
    have h' : left - (n : Int) < 0 := by omega
    go_enter Try.func87, Try.ntmps87
    go_wp2
    go_ret
    exact ⟨rfl, rfl⟩
  · rw [if_neg h]
    have h' : ¬ left - (n : Int) < 0 := by omega
    go_enter Try.func87, Try.ntmps87
    go_wp2
    go_ret
    exact ⟨rfl, rfl⟩
/-- What szSection answers: -1, or a number that tells that nothing is long. -/
def SizedX (w : World) (s : Sx) (e : Ending) (w' : World) : Prop :=
  ∃ r : Int, e = .returned (.int .i64 r) ∧ Below w.heap.size w w' ∧ -1 ≤ r ∧ r ≤ 1048576 ∧ (0 ≤ r → s.name.size ≤ 1048576 ∧ s.bytes.length ≤ 1048576 ∧ s.fixs.length ≤ 1048576)
set_option maxHeartbeats 1000000 in
theorem szSection_any (w : World) (s : Sx) (a1 : Option Addr) (c1 : Nat) (a2 : Option Addr) (c2 : Nat) (hn : s.name.size ≤ maxLen) (hl1 : s.bytes.length ≤ 9223372036854775807) (hl2 : s.fixs.length ≤ 9223372036854775807) :
    Calls Try.prog 75 #[s.agg a1 c1 a2 c2, .int .i64 1048576] w (SizedX w s) := by
  obtain ⟨nm, kind, al, bs, sz, fs⟩ := s
  unfold Sx.agg SizedX
  simp only at hn hl1 hl2 ⊢
  unfold maxLen at hn
  generalize bs.length = nb at hl1 ⊢
  generalize fs.length = nf at hl2 ⊢
  by_cases h1 : (1048576 : Int) - (nm.size : Int) < 0
  · go_enter Try.func75, Try.ntmps75
    go_wp2_with fail
    go_ret
    exact ⟨-1, rfl, (Below.refl _ _).alloc (Nat.le_refl _) _, by omega, by omega, by omega⟩
  have H1 := hidden (fun W => szByteS_any W a1 c1 nb (1048576 - nm.size) (by omega) (by omega) hl1)
  by_cases h2 : (1048576 : Int) - nm.size < nb
  · have e : leftOf (1048576 - nm.size) nb = -1 := if_pos h2
    rw [e] at H1
    clear e h2
    go_enter Try.func75, Try.ntmps75
    go_wp2_with (go_at_call 86; refine (H1.out _).mono ?_; rintro e w' ⟨rfl, rfl⟩)
    go_ret
    exact ⟨-1, rfl, (Below.refl _ _).alloc (Nat.le_refl _) _, by omega, by omega, by omega⟩
  have e : leftOf (1048576 - nm.size) nb = 1048576 - nm.size - nb := if_neg h2
  rw [e] at H1
  clear e
  obtain ⟨l2, hl⟩ : ∃ l2 : Int, 1048576 - (nm.size : Int) - nb = l2 := ⟨_, rfl⟩
  rw [hl] at H1
  have g2 : ¬ l2 < 0 := by omega
  have H2 := hidden (fun W => szFixupS_any W a2 c2 nf l2 (by omega) (by omega) hl2)
  have HL := hidden hl
  clear hl
  by_cases h3 : l2 < nf
  · have e : leftOf l2 nf = -1 := if_pos h3
    rw [e] at H2
    clear e h3 h2
    go_enter Try.func75, Try.ntmps75
    go_wp2_with (first | (go_at_call 86; refine (H1.out _).mono ?_; rintro e w' ⟨rfl, rfl⟩) | (go_at_call 87; refine (H2.out _).mono ?_; rintro e w' ⟨rfl, rfl⟩))
    go_ret
    exact ⟨-1, rfl, (Below.refl _ _).alloc (Nat.le_refl _) _, by omega, by omega, by omega⟩
  · have e : leftOf l2 nf = l2 - nf := if_neg h3
    rw [e] at H2
    clear e
    obtain ⟨l3, hl3⟩ : ∃ l3 : Int, l2 - nf = l3 := ⟨_, rfl⟩
    rw [hl3] at H2
    have g3 : ¬ l3 < 0 := by omega
    have HL3 := hidden hl3
    clear hl3 h2 h3
    go_enter Try.func75, Try.ntmps75
    go_wp2_with (first | (go_at_call 86; refine (H1.out _).mono ?_; rintro e w' ⟨rfl, rfl⟩) | (go_at_call 87; refine (H2.out _).mono ?_; rintro e w' ⟨rfl, rfl⟩))
    go_ret
    have q1 := HL.out
    have q2 := HL3.out
    exact ⟨l3, rfl, (Below.refl _ _).alloc (Nat.le_refl _) _, by omega, by omega, fun _ => by omega⟩
/-- A section's value, and what it leads to. -/
def SectV (w : World) (B : Nat) (s : Sx) (v : Value) : Prop :=
  ∃ a1 c1 a2 c2, v = s.agg a1 c1 a2 c2 ∧ Ints w .u8 B a1 s.bytes ∧ Fixs w B a2 s.fixs
theorem ints_wf_bytes {w : World} {B : Nat} {a : Option Addr} {l : List Int} (h : Ints w .u8 B a l) : ∀ x ∈ l, (Lit.int .u8 x).wf = true := h.1
set_option maxHeartbeats 1000000 in
theorem toSection_far (w : World) (B : Nat) (s : Sx) (a1 : Option Addr) (c1 : Nat) (a2 : Option Addr) (c2 : Nat) (h1 : Ints w .u8 B a1 s.bytes) (h2 : Fixs w B a2 s.fixs) (hB : B ≤ w.heap.size) (hl1 : s.bytes.length ≤ 1048576) (hl2 : s.fixs.length ≤ 1048576) :
    Calls Try.prog 77 #[s.agg a1 c1 a2 c2] w fun e w' => ∃ b1 b2 n1 n2, e = .returned (s.agg (some ⟨b1, 0, none⟩) n1 (some ⟨b2, 0, none⟩) n2) ∧ Ints w' .u8 w'.heap.size (some ⟨b1, 0, none⟩) s.bytes ∧ Fixs w' w'.heap.size (some ⟨b2, 0, none⟩) s.fixs ∧ Below w.heap.size w w' ∧ w.heap.size < b1 ∧ w.heap.size < b2 ∧ Has w' b1 5 (s.bytes.map (Value.int .u8)).toArray ∧ (∃ cs, Has w' b2 119 cs ∧ cs.size = s.fixs.length * 4) := by
  obtain ⟨nm, kind, al, bs, sz, fs⟩ := s
  unfold Sx.agg
  simp only at h1 h2 hl1 hl2 ⊢
  have HT1 := hidden (fun (W : World) (hW : Below w.heap.size w W) => toByteS_any W B a1 c1 bs (h1.below (hW.mono hB)) (Nat.le_trans hB hW.size) (by omega))
  have H2 := hidden (fun (W : World) (hW : Below w.heap.size w W) => h2.below (hW.mono hB))
  have HWF := hidden h1.1
  obtain ⟨nb, hnb⟩ : ∃ n, n = bs.length := ⟨_, rfl⟩
  obtain ⟨nf, hnf⟩ : ∃ n, n = fs.length := ⟨_, rfl⟩
  rw [← hnb] at HT1 hl1 ⊢
  rw [← hnf] at hl2 ⊢
  have HNF := hidden hnf
  clear h1 h2 hnb hnf
  go_enter Try.func77, Try.ntmps77
  go_wp2_with fail
  refine (HT1.out _ ((((Below.refl _ _).alloc (Nat.le_refl _) _).alloc (by simp) _).alloc (by simp; omega) _)).mono ?_
  clear HT1
  rintro e w3 ⟨rfl, hh3, hb3⟩
  have hsz : (((w.alloc (.cells #[.string nm, .int .i64 kind, .int .i64 al, .slice a1 nb c1, .int .i64 sz, .slice a2 nf c2] 127)).alloc (.cells #[.string ⟨#[]⟩, .int .i64 0, .int .i64 0, .slice none 0 0, .int .i64 0, .slice none 0 0] 42)).alloc (.cells #[.string nm, .int .i64 kind, .int .i64 al, .slice none 0 0, .int .i64 0, .slice none 0 0] 42)).heap.size = w.heap.size + 3 := by simp
  have hasA : Has w3 (w.heap.size) 127 #[.string nm, .int .i64 kind, .int .i64 al, .slice a1 nb c1, .int .i64 sz, .slice a2 nf c2] := (((Has.new w _ _).alloc _).alloc _).below hb3 (by rw [hsz]; omega)
  have hasB : Has w3 (w.heap.size + 1) 42 #[.string ⟨#[]⟩, .int .i64 0, .int .i64 0, .slice none 0 0, .int .i64 0, .slice none 0 0] := by
    have h := ((Has.new (w.alloc (.cells #[.string nm, .int .i64 kind, .int .i64 al, .slice a1 nb c1, .int .i64 sz, .slice a2 nf c2] 127)) 42 #[.string ⟨#[]⟩, .int .i64 0, .int .i64 0, .slice none 0 0, .int .i64 0, .slice none 0 0]).alloc (.cells #[.string nm, .int .i64 kind, .int .i64 al, .slice none 0 0, .int .i64 0, .slice none 0 0] 42)).below hb3 (by rw [hsz]; simp)
    simpa using h
  have hasC : Has w3 (w.heap.size + 1 + 1) 42 #[.string nm, .int .i64 kind, .int .i64 al, .slice none 0 0, .int .i64 0, .slice none 0 0] := by
    have h := (Has.new ((w.alloc (.cells #[.string nm, .int .i64 kind, .int .i64 al, .slice a1 nb c1, .int .i64 sz, .slice a2 nf c2] 127)).alloc (.cells #[.string ⟨#[]⟩, .int .i64 0, .int .i64 0, .slice none 0 0, .int .i64 0, .slice none 0 0] 42)) 42 #[.string nm, .int .i64 kind, .int .i64 al, .slice none 0 0, .int .i64 0, .slice none 0 0]).below hb3 (by rw [hsz]; simp)
    simpa using h
  have hb03 : Below w.heap.size w w3 := ((((Below.refl _ _).alloc (Nat.le_refl _) _).alloc (by simp) _).alloc (by simp; omega) _).trans (hb3.mono (by rw [hsz]; omega))
  rw [hsz] at hh3 hb3 ⊢
  obtain ⟨g1, hg1⟩ : ∃ g, w.heap.size + 3 = g := ⟨_, rfl⟩
  rw [hg1] at hh3 hb3 ⊢
  have G1 : Hid (w.heap.size + 3 = g1) := hg1
  clear hg1 hsz
  have x4 : w3.cell? ⟨w.heap.size, 4, none⟩ = some (.int .i64 sz) := hasA.cell 4
  have x5 : w3.cell? ⟨w.heap.size, 5, none⟩ = some (.slice a2 nf c2) := hasA.cell 5
  have c3 : w3.cell? ⟨w.heap.size + 1 + 1, 3, none⟩ = some (.slice none 0 0) := hasC.cell 3
  have c4 : w3.cell? ⟨w.heap.size + 1 + 1, 4, none⟩ = some (.int .i64 0) := hasC.cell 4
  have f3 := hasC.free 3
  have f4 := hasC.free 4
  have hasC5 : Has ((w3.setCell ⟨w.heap.size + 1 + 1, 3, none⟩ (.slice (some ⟨g1, 0, none⟩) nb nb)).setCell ⟨w.heap.size + 1 + 1, 4, none⟩ (.int .i64 sz)) (w.heap.size + 1 + 1) 42 #[.string nm, .int .i64 kind, .int .i64 al, .slice (some ⟨g1, 0, none⟩) nb nb, .int .i64 sz, .slice none 0 0] := (hasC.put 3 _).put 4 _
  have hasA5 : Has ((w3.setCell ⟨w.heap.size + 1 + 1, 3, none⟩ (.slice (some ⟨g1, 0, none⟩) nb nb)).setCell ⟨w.heap.size + 1 + 1, 4, none⟩ (.int .i64 sz)) (w.heap.size) 127 #[.string nm, .int .i64 kind, .int .i64 al, .slice a1 nb c1, .int .i64 sz, .slice a2 nf c2] := (hasA.away (p := ⟨w.heap.size + 1 + 1, 3, none⟩) (by show _ ≠ w.heap.size + 1 + 1; omega) _).away (p := ⟨w.heap.size + 1 + 1, 4, none⟩) (by show _ ≠ w.heap.size + 1 + 1; omega) _
  have hasB5 : Has ((w3.setCell ⟨w.heap.size + 1 + 1, 3, none⟩ (.slice (some ⟨g1, 0, none⟩) nb nb)).setCell ⟨w.heap.size + 1 + 1, 4, none⟩ (.int .i64 sz)) (w.heap.size + 1) 42 #[.string ⟨#[]⟩, .int .i64 0, .int .i64 0, .slice none 0 0, .int .i64 0, .slice none 0 0] := (hasB.away (p := ⟨w.heap.size + 1 + 1, 3, none⟩) (by show _ ≠ w.heap.size + 1 + 1; omega) _).away (p := ⟨w.heap.size + 1 + 1, 4, none⟩) (by show _ ≠ w.heap.size + 1 + 1; omega) _
  have hh5 : Has ((w3.setCell ⟨w.heap.size + 1 + 1, 3, none⟩ (.slice (some ⟨g1, 0, none⟩) nb nb)).setCell ⟨w.heap.size + 1 + 1, 4, none⟩ (.int .i64 sz)) g1 5 (bs.map (Value.int .u8)).toArray := (hh3.away (p := ⟨w.heap.size + 1 + 1, 3, none⟩) (by show _ ≠ w.heap.size + 1 + 1; have := G1.out; omega) _).away (p := ⟨w.heap.size + 1 + 1, 4, none⟩) (by show _ ≠ w.heap.size + 1 + 1; have := G1.out; omega) _
  have hb05 : Below w.heap.size w ((w3.setCell ⟨w.heap.size + 1 + 1, 3, none⟩ (.slice (some ⟨g1, 0, none⟩) nb nb)).setCell ⟨w.heap.size + 1 + 1, 4, none⟩ (.int .i64 sz)) := (hb03.setCell (p := ⟨w.heap.size + 1 + 1, 3, none⟩) (by show _ ≤ w.heap.size + 1 + 1; omega) _).setCell (p := ⟨w.heap.size + 1 + 1, 4, none⟩) (by show _ ≤ w.heap.size + 1 + 1; omega) _
  have HTF := hidden (toFixupS_has ((w3.setCell ⟨w.heap.size + 1 + 1, 3, none⟩ (.slice (some ⟨g1, 0, none⟩) nb nb)).setCell ⟨w.heap.size + 1 + 1, 4, none⟩ (.int .i64 sz)) B a2 c2 nf fs HNF.out (H2.out _ hb05) (Nat.le_trans hB hb05.size) hl2)
  have s5 : g1 < ((w3.setCell ⟨w.heap.size + 1 + 1, 3, none⟩ (.slice (some ⟨g1, 0, none⟩) nb nb)).setCell ⟨w.heap.size + 1 + 1, 4, none⟩ (.int .i64 sz)).heap.size := hh5.lt
  clear hasA hasB hasC hh3 hb3 hb03 H2
  go_wp2_with fail
  refine HTF.out.mono ?_
  clear HTF
  rintro e w6 ⟨rfl, hfx, hlt6, hb6, csF, hhF, hcsF⟩
  have HSZ : Hid (((w3.setCell ⟨w.heap.size + 1 + 1, 3, none⟩ (.slice (some ⟨g1, 0, none⟩) nb nb)).setCell ⟨w.heap.size + 1 + 1, 4, none⟩ (.int .i64 sz)).heap.size < w6.heap.size) := hlt6
  have g1v := G1.out
  have hasA6 := hasA5.below hb6 (by omega)
  have hasB6 := hasB5.below hb6 (by omega)
  have hasC6 := hasC5.below hb6 (by omega)
  have hh6 := hh5.below hb6 s5
  have hb06 : Below w.heap.size w w6 := hb05.trans (hb6.mono hb05.size)
  obtain ⟨g2, hg2⟩ : ∃ g, ((w3.setCell ⟨w.heap.size + 1 + 1, 3, none⟩ (.slice (some ⟨g1, 0, none⟩) nb nb)).setCell ⟨w.heap.size + 1 + 1, 4, none⟩ (.int .i64 sz)).heap.size = g := ⟨_, rfl⟩
  rw [hg2] at hfx hb6 s5 HSZ hhF ⊢
  clear hlt6 hasA5 hasB5 hasC5 hh5 hb05 x4 x5 c3 c4 f3 f4
  have c0 : w6.cell? ⟨w.heap.size + 1 + 1, 0, none⟩ = some (.string nm) := hasC6.cell 0
  have c1 : w6.cell? ⟨w.heap.size + 1 + 1, 1, none⟩ = some (.int .i64 kind) := hasC6.cell 1
  have c2 : w6.cell? ⟨w.heap.size + 1 + 1, 2, none⟩ = some (.int .i64 al) := hasC6.cell 2
  have c3 : w6.cell? ⟨w.heap.size + 1 + 1, 3, none⟩ = some (.slice (some ⟨g1, 0, none⟩) nb nb) := hasC6.cell 3
  have c4 : w6.cell? ⟨w.heap.size + 1 + 1, 4, none⟩ = some (.int .i64 sz) := hasC6.cell 4
  have c5 : w6.cell? ⟨w.heap.size + 1 + 1, 5, none⟩ = some (.slice none 0 0) := hasC6.cell 5
  have f0 := hasC6.free 0
  have f1 := hasC6.free 1
  have f2 := hasC6.free 2
  have f3 := hasC6.free 3
  have f4 := hasC6.free 4
  have f5 := hasC6.free 5
  have z0 : w6.cell? ⟨w.heap.size + 1, 0, none⟩ = some (.string ⟨#[]⟩) := hasB6.cell 0
  have z1 : w6.cell? ⟨w.heap.size + 1, 1, none⟩ = some (.int .i64 0) := hasB6.cell 1
  have z2 : w6.cell? ⟨w.heap.size + 1, 2, none⟩ = some (.int .i64 0) := hasB6.cell 2
  have z3 : w6.cell? ⟨w.heap.size + 1, 3, none⟩ = some (.slice none 0 0) := hasB6.cell 3
  have z4 : w6.cell? ⟨w.heap.size + 1, 4, none⟩ = some (.int .i64 0) := hasB6.cell 4
  have z5 : w6.cell? ⟨w.heap.size + 1, 5, none⟩ = some (.slice none 0 0) := hasB6.cell 5
  have y0 := hasB6.free 0
  have y1 := hasB6.free 1
  have y2 := hasB6.free 2
  have y3 := hasB6.free 3
  have y4 := hasB6.free 4
  have y5 := hasB6.free 5
  have HB6 := hidden hasB6
  have HH6 := hidden hh6
  have HHF := hidden hhF
  have HFX := hidden hfx
  clear hasA6 hasB6 hasC6 hh6 hfx hg2 hhF
  go_wp2_with fail
  have hfin : Has (((((((w6.setCell ⟨w.heap.size + 1 + 1, 5, none⟩ (.slice (some ⟨g2, 0, none⟩) nf nf)).setCell ⟨w.heap.size + 1, 0, none⟩ (.string nm)).setCell ⟨w.heap.size + 1, 1, none⟩ (.int .i64 kind)).setCell ⟨w.heap.size + 1, 2, none⟩ (.int .i64 al)).setCell ⟨w.heap.size + 1, 3, none⟩ (.slice (some ⟨g1, 0, none⟩) nb nb)).setCell ⟨w.heap.size + 1, 4, none⟩ (.int .i64 sz)).setCell ⟨w.heap.size + 1, 5, none⟩ (.slice (some ⟨g2, 0, none⟩) nf nf)) (w.heap.size + 1) 42 #[.string nm, .int .i64 kind, .int .i64 al, .slice (some ⟨g1, 0, none⟩) nb nb, .int .i64 sz, .slice (some ⟨g2, 0, none⟩) nf nf] := ((((((HB6.out.away (p := ⟨w.heap.size + 1 + 1, 5, none⟩) (by show _ ≠ w.heap.size + 1 + 1; omega) _).put 0 _).put 1 _).put 2 _).put 3 _).put 4 _).put 5 _
  have hbytes : Has (((((((w6.setCell ⟨w.heap.size + 1 + 1, 5, none⟩ (.slice (some ⟨g2, 0, none⟩) nf nf)).setCell ⟨w.heap.size + 1, 0, none⟩ (.string nm)).setCell ⟨w.heap.size + 1, 1, none⟩ (.int .i64 kind)).setCell ⟨w.heap.size + 1, 2, none⟩ (.int .i64 al)).setCell ⟨w.heap.size + 1, 3, none⟩ (.slice (some ⟨g1, 0, none⟩) nb nb)).setCell ⟨w.heap.size + 1, 4, none⟩ (.int .i64 sz)).setCell ⟨w.heap.size + 1, 5, none⟩ (.slice (some ⟨g2, 0, none⟩) nf nf)) g1 5 (bs.map (Value.int .u8)).toArray := (((((((HH6.out).away (p := ⟨w.heap.size + 1 + 1, 5, none⟩) (by show _ ≠ w.heap.size + 1 + 1; omega) _).away (p := ⟨w.heap.size + 1, 0, none⟩) (by show _ ≠ w.heap.size + 1; omega) _).away (p := ⟨w.heap.size + 1, 1, none⟩) (by show _ ≠ w.heap.size + 1; omega) _).away (p := ⟨w.heap.size + 1, 2, none⟩) (by show _ ≠ w.heap.size + 1; omega) _).away (p := ⟨w.heap.size + 1, 3, none⟩) (by show _ ≠ w.heap.size + 1; omega) _).away (p := ⟨w.heap.size + 1, 4, none⟩) (by show _ ≠ w.heap.size + 1; omega) _).away (p := ⟨w.heap.size + 1, 5, none⟩) (by show _ ≠ w.heap.size + 1; omega) _
  have g2v : g1 < g2 := s5
  have hown2 : Has (((((((w6.setCell ⟨w.heap.size + 1 + 1, 5, none⟩ (.slice (some ⟨g2, 0, none⟩) nf nf)).setCell ⟨w.heap.size + 1, 0, none⟩ (.string nm)).setCell ⟨w.heap.size + 1, 1, none⟩ (.int .i64 kind)).setCell ⟨w.heap.size + 1, 2, none⟩ (.int .i64 al)).setCell ⟨w.heap.size + 1, 3, none⟩ (.slice (some ⟨g1, 0, none⟩) nb nb)).setCell ⟨w.heap.size + 1, 4, none⟩ (.int .i64 sz)).setCell ⟨w.heap.size + 1, 5, none⟩ (.slice (some ⟨g2, 0, none⟩) nf nf)) g2 119 csF := (((((((HHF.out).away (p := ⟨w.heap.size + 1 + 1, 5, none⟩) (by show _ ≠ w.heap.size + 1 + 1; omega) _).away (p := ⟨w.heap.size + 1, 0, none⟩) (by show _ ≠ w.heap.size + 1; omega) _).away (p := ⟨w.heap.size + 1, 1, none⟩) (by show _ ≠ w.heap.size + 1; omega) _).away (p := ⟨w.heap.size + 1, 2, none⟩) (by show _ ≠ w.heap.size + 1; omega) _).away (p := ⟨w.heap.size + 1, 3, none⟩) (by show _ ≠ w.heap.size + 1; omega) _).away (p := ⟨w.heap.size + 1, 4, none⟩) (by show _ ≠ w.heap.size + 1; omega) _).away (p := ⟨w.heap.size + 1, 5, none⟩) (by show _ ≠ w.heap.size + 1; omega) _
  have hfixs : Fixs (((((((w6.setCell ⟨w.heap.size + 1 + 1, 5, none⟩ (.slice (some ⟨g2, 0, none⟩) nf nf)).setCell ⟨w.heap.size + 1, 0, none⟩ (.string nm)).setCell ⟨w.heap.size + 1, 1, none⟩ (.int .i64 kind)).setCell ⟨w.heap.size + 1, 2, none⟩ (.int .i64 al)).setCell ⟨w.heap.size + 1, 3, none⟩ (.slice (some ⟨g1, 0, none⟩) nb nb)).setCell ⟨w.heap.size + 1, 4, none⟩ (.int .i64 sz)).setCell ⟨w.heap.size + 1, 5, none⟩ (.slice (some ⟨g2, 0, none⟩) nf nf)) (g2 + 1) (some ⟨g2, 0, none⟩) fs := (((((((HFX.out).set (p := ⟨w.heap.size + 1 + 1, 5, none⟩) (by show _ ≠ w.heap.size + 1 + 1; omega) _).set (p := ⟨w.heap.size + 1, 0, none⟩) (by show _ ≠ w.heap.size + 1; omega) _).set (p := ⟨w.heap.size + 1, 1, none⟩) (by show _ ≠ w.heap.size + 1; omega) _).set (p := ⟨w.heap.size + 1, 2, none⟩) (by show _ ≠ w.heap.size + 1; omega) _).set (p := ⟨w.heap.size + 1, 3, none⟩) (by show _ ≠ w.heap.size + 1; omega) _).set (p := ⟨w.heap.size + 1, 4, none⟩) (by show _ ≠ w.heap.size + 1; omega) _).set (p := ⟨w.heap.size + 1, 5, none⟩) (by show _ ≠ w.heap.size + 1; omega) _
  have hbel : Below w.heap.size w (((((((w6.setCell ⟨w.heap.size + 1 + 1, 5, none⟩ (.slice (some ⟨g2, 0, none⟩) nf nf)).setCell ⟨w.heap.size + 1, 0, none⟩ (.string nm)).setCell ⟨w.heap.size + 1, 1, none⟩ (.int .i64 kind)).setCell ⟨w.heap.size + 1, 2, none⟩ (.int .i64 al)).setCell ⟨w.heap.size + 1, 3, none⟩ (.slice (some ⟨g1, 0, none⟩) nb nb)).setCell ⟨w.heap.size + 1, 4, none⟩ (.int .i64 sz)).setCell ⟨w.heap.size + 1, 5, none⟩ (.slice (some ⟨g2, 0, none⟩) nf nf)) := (((((((hb06).setCell (p := ⟨w.heap.size + 1 + 1, 5, none⟩) (by show _ ≤ w.heap.size + 1 + 1; omega) _).setCell (p := ⟨w.heap.size + 1, 0, none⟩) (by show _ ≤ w.heap.size + 1; omega) _).setCell (p := ⟨w.heap.size + 1, 1, none⟩) (by show _ ≤ w.heap.size + 1; omega) _).setCell (p := ⟨w.heap.size + 1, 2, none⟩) (by show _ ≤ w.heap.size + 1; omega) _).setCell (p := ⟨w.heap.size + 1, 3, none⟩) (by show _ ≤ w.heap.size + 1; omega) _).setCell (p := ⟨w.heap.size + 1, 4, none⟩) (by show _ ≤ w.heap.size + 1; omega) _).setCell (p := ⟨w.heap.size + 1, 5, none⟩) (by show _ ≤ w.heap.size + 1; omega) _
  have hsz9 : (((((((w6.setCell ⟨w.heap.size + 1 + 1, 5, none⟩ (.slice (some ⟨g2, 0, none⟩) nf nf)).setCell ⟨w.heap.size + 1, 0, none⟩ (.string nm)).setCell ⟨w.heap.size + 1, 1, none⟩ (.int .i64 kind)).setCell ⟨w.heap.size + 1, 2, none⟩ (.int .i64 al)).setCell ⟨w.heap.size + 1, 3, none⟩ (.slice (some ⟨g1, 0, none⟩) nb nb)).setCell ⟨w.heap.size + 1, 4, none⟩ (.int .i64 sz)).setCell ⟨w.heap.size + 1, 5, none⟩ (.slice (some ⟨g2, 0, none⟩) nf nf)).heap.size = w6.heap.size := by simp
  have hg26 : g2 + 1 ≤ w6.heap.size := by have := HSZ.out; omega
  refine bodyPost_ret (results_cell_row rfl _ _ (w.heap.size + 1) 42 #[.string nm, .int .i64 kind, .int .i64 al, .slice (some ⟨g1, 0, none⟩) nb nb, .int .i64 sz, .slice (some ⟨g2, 0, none⟩) nf nf] (0, 0) _ rfl hfin Try.underlying42 rfl (by kernel_rfl)) rfl ?_
  exact ⟨g1, g2, nb, nf, rfl, Ints.ofHas hbytes rfl HWF.out hbytes.lt, hfixs.more (by rw [hsz9]; exact hg26), hbel, by have := G1.out; omega, by have := G1.out; omega, hbytes, csF, hown2, by rw [hcsF, HNF.out]⟩
theorem toSection_any (w : World) (B : Nat) (s : Sx) (a1 : Option Addr) (c1 : Nat) (a2 : Option Addr) (c2 : Nat) (h1 : Ints w .u8 B a1 s.bytes) (h2 : Fixs w B a2 s.fixs) (hB : B ≤ w.heap.size) (hl1 : s.bytes.length ≤ 1048576) (hl2 : s.fixs.length ≤ 1048576) :
    Calls Try.prog 77 #[s.agg a1 c1 a2 c2] w fun e w' => ∃ b1 b2 n1 n2, e = .returned (s.agg (some ⟨b1, 0, none⟩) n1 (some ⟨b2, 0, none⟩) n2) ∧ Ints w' .u8 w'.heap.size (some ⟨b1, 0, none⟩) s.bytes ∧ Fixs w' w'.heap.size (some ⟨b2, 0, none⟩) s.fixs ∧ Below w.heap.size w w' :=
  (toSection_far w B s a1 c1 a2 c2 h1 h2 hB hl1 hl2).mono fun _ _ ⟨b1, b2, n1, n2, he, hi, hf, hb, _⟩ => ⟨b1, b2, n1, n2, he, hi, hf, hb⟩

end Go.Proofs.Ytiocchmlmcoieaa
/- laws.eqSection: equal sections are found equal. -/
namespace Go.Proofs.Ytiocchmlmcoieaa
open Go.RowKit

set_option maxHeartbeats 1000000 in
theorem eqSection_yes (w : World) (B1 B2 : Nat) (s : Sx) (a1 : Option Addr) (c1 : Nat) (a2 : Option Addr) (c2 : Nat) (b1 : Option Addr) (d1 : Nat) (b2 : Option Addr) (d2 : Nat)
    (h1 : Ints w .u8 B1 a1 s.bytes) (h2 : Fixs w B1 a2 s.fixs) (k1 : Ints w .u8 B2 b1 s.bytes) (k2 : Fixs w B2 b2 s.fixs) (hB1 : B1 ≤ w.heap.size) (hB2 : B2 ≤ w.heap.size) (hl1 : s.bytes.length ≤ 9223372036854775807) (hl2 : s.fixs.length ≤ 9223372036854775807) :
    Calls Try.prog 79 #[s.agg a1 c1 a2 c2, s.agg b1 d1 b2 d2] w fun e w' => e = .returned (.bool true) ∧ Below w.heap.size w w' := by
  obtain ⟨nm, kind, al, bs, sz, fs⟩ := s
  unfold Sx.agg
  simp only at h1 h2 k1 k2 hl1 hl2 ⊢
  have HE1 := hidden (fun (W : World) (hW : Below w.heap.size w W) => eqByteS_yes W B1 B2 a1 b1 c1 d1 bs (h1.below (hW.mono hB1)) (k1.below (hW.mono hB2)) hl1)
  have HE2 := hidden (fun (W : World) (hW : Below w.heap.size w W) => eqFixupS_yes W B1 B2 a2 b2 c2 d2 fs.length fs rfl (h2.below (hW.mono hB1)) (k2.below (hW.mono hB2)) (Nat.le_trans hB1 hW.size) (Nat.le_trans hB2 hW.size) hl2)
  obtain ⟨nb, hnb⟩ : ∃ n, n = bs.length := ⟨_, rfl⟩
  obtain ⟨nf, hnf⟩ : ∃ n, n = fs.length := ⟨_, rfl⟩
  rw [← hnb] at HE1 ⊢
  rw [← hnf] at HE2 ⊢
  have hss : (nm.toList == nm.toList) = true := beq_self_eq_true _
  clear h1 h2 k1 k2 hnb hnf hl1 hl2
  go_enter Try.func79, Try.ntmps79
  go_wp2_with fail
  refine (HE1.out _ (((Below.refl _ _).alloc (Nat.le_refl _) _).alloc (by simp) _)).mono ?_
  clear HE1
  rintro e w1 ⟨rfl, m, rfl⟩
  have hb1 : Below w.heap.size w _ := below_drewN (((Below.refl w.heap.size w).alloc (Nat.le_refl _) (.cells #[.string nm, .int .i64 kind, .int .i64 al, .slice a1 nb c1, .int .i64 sz, .slice a2 nf c2] 42)).alloc (by simp) (.cells #[.string nm, .int .i64 kind, .int .i64 al, .slice b1 nb d1, .int .i64 sz, .slice b2 nf d2] 42)) m
  go_wp2_with fail
  refine (HE2.out _ hb1).mono ?_
  clear HE2
  rintro e w2 ⟨rfl, hb2⟩
  have hb3 : Below w.heap.size w w2 := hb1.trans (hb2.mono hb1.size)
  clear hb1 hb2
  go_wp2_with fail
  go_ret
  exact ⟨rfl, hb3⟩

end Go.Proofs.Ytiocchmlmcoieaa
/- Sections in a list in memory. -/
namespace Go.Proofs.Ytiocchmlmcoieaa
open Go.RowKit

/-- What szSection answers, whatever was left: -1, or a number that tells that nothing is long. -/
def SizedG (w : World) (s : Sx) (e : Ending) (w' : World) : Prop :=
  ∃ r : Int, e = .returned (.int .i64 r) ∧ Below w.heap.size w w' ∧ -1 ≤ r ∧ r ≤ 1048576 ∧ (0 ≤ r → s.name.size ≤ 1048576 ∧ s.bytes.length ≤ 1048576 ∧ s.fixs.length ≤ 1048576)
set_option maxHeartbeats 1000000 in
theorem szSectionG_any (w : World) (s : Sx) (a1 : Option Addr) (c1 : Nat) (a2 : Option Addr) (c2 : Nat) (hn : s.name.size ≤ maxLen) (hl1 : s.bytes.length ≤ 9223372036854775807) (hl2 : s.fixs.length ≤ 9223372036854775807) (left : Int) (hf0 : 0 ≤ left) (hf1 : left ≤ 1048576) :
    Calls Try.prog 75 #[s.agg a1 c1 a2 c2, .int .i64 left] w (SizedG w s) := by
  obtain ⟨nm, kind, al, bs, sz, fs⟩ := s
  unfold Sx.agg SizedG
  simp only at hn hl1 hl2 ⊢
  unfold maxLen at hn
  generalize bs.length = nb at hl1 ⊢
  generalize fs.length = nf at hl2 ⊢
  by_cases h1 : left - (nm.size : Int) < 0
  · go_enter Try.func75, Try.ntmps75
    go_wp2_with fail
    go_ret
    exact ⟨-1, rfl, (Below.refl _ _).alloc (Nat.le_refl _) _, by omega, by omega, by omega⟩
  have H1 := hidden (fun W => szByteS_any W a1 c1 nb (left - nm.size) (by omega) (by omega) hl1)
  by_cases h2 : left - nm.size < nb
  · have e : leftOf (left - nm.size) nb = -1 := if_pos h2
    rw [e] at H1
    clear e h2
    go_enter Try.func75, Try.ntmps75
    go_wp2_with (go_at_call 86; refine (H1.out _).mono ?_; rintro e w' ⟨rfl, rfl⟩)
    go_ret
    exact ⟨-1, rfl, (Below.refl _ _).alloc (Nat.le_refl _) _, by omega, by omega, by omega⟩
  have e : leftOf (left - nm.size) nb = left - nm.size - nb := if_neg h2
  rw [e] at H1
  clear e
  obtain ⟨l2, hl⟩ : ∃ l2 : Int, left - (nm.size : Int) - nb = l2 := ⟨_, rfl⟩
  rw [hl] at H1
  have g2 : ¬ l2 < 0 := by omega
  have H2 := hidden (fun W => szFixupS_any W a2 c2 nf l2 (by omega) (by omega) hl2)
  have HL := hidden hl
  clear hl
  by_cases h3 : l2 < nf
  · have e : leftOf l2 nf = -1 := if_pos h3
    rw [e] at H2
    clear e h3 h2
    go_enter Try.func75, Try.ntmps75
    go_wp2_with (first | (go_at_call 86; refine (H1.out _).mono ?_; rintro e w' ⟨rfl, rfl⟩) | (go_at_call 87; refine (H2.out _).mono ?_; rintro e w' ⟨rfl, rfl⟩))
    go_ret
    exact ⟨-1, rfl, (Below.refl _ _).alloc (Nat.le_refl _) _, by omega, by omega, by omega⟩
  · have e : leftOf l2 nf = l2 - nf := if_neg h3
    rw [e] at H2
    clear e
    obtain ⟨l3, hl3⟩ : ∃ l3 : Int, l2 - nf = l3 := ⟨_, rfl⟩
    rw [hl3] at H2
    have g3 : ¬ l3 < 0 := by omega
    have HL3 := hidden hl3
    clear hl3 h2 h3
    go_enter Try.func75, Try.ntmps75
    go_wp2_with (first | (go_at_call 86; refine (H1.out _).mono ?_; rintro e w' ⟨rfl, rfl⟩) | (go_at_call 87; refine (H2.out _).mono ?_; rintro e w' ⟨rfl, rfl⟩))
    go_ret
    have q1 := HL.out
    have q2 := HL3.out
    exact ⟨l3, rfl, (Below.refl _ _).alloc (Nat.le_refl _) _, by omega, by omega, fun _ => by omega⟩
/-- A section and where its lists lie. -/
structure Sp where
  s : Sx
  a1 : Option Addr
  c1 : Nat
  a2 : Option Addr
  c2 : Nat
def Sp.agg (y : Sp) : Value := y.s.agg y.a1 y.c1 y.a2 y.c2
/-- The cells of a section at a place. -/
def SecAt (w : World) (b o : Nat) (y : Sp) : Prop :=
  w.cell? ⟨b, o, none⟩ = some (.string y.s.name) ∧ w.cell? ⟨b, o + 1, none⟩ = some (.int .i64 y.s.kind) ∧ w.cell? ⟨b, o + 2, none⟩ = some (.int .i64 y.s.align) ∧
  w.cell? ⟨b, o + 3, none⟩ = some (.slice y.a1 y.s.bytes.length y.c1) ∧ w.cell? ⟨b, o + 4, none⟩ = some (.int .i64 y.s.size) ∧ w.cell? ⟨b, o + 5, none⟩ = some (.slice y.a2 y.s.fixs.length y.c2)
/-- The slice at address 'a' holds these sections, below 'B' with all that they lead to. -/
structure Sects (w : World) (B : Nat) (a : Option Addr) (l : List Sp) : Prop where
  row : 0 < l.length → ∃ b off, a = some ⟨b, off, none⟩ ∧ b < B ∧ ∀ i y, l[i]? = some y → SecAt w b (off + i * 6) y
  bytes : ∀ y ∈ l, Ints w .u8 B y.a1 y.s.bytes
  fixs : ∀ y ∈ l, Fixs w B y.a2 y.s.fixs
section
variable {w w' : World} {B B' : Nat} {a : Option Addr} {l : List Sp}
theorem SecAt.keep {b o : Nat} {y : Sp} (h : SecAt w b o y) (hk : ∀ i, w'.cell? ⟨b, i, none⟩ = w.cell? ⟨b, i, none⟩) : SecAt w' b o y :=
  ⟨(hk _).trans h.1, (hk _).trans h.2.1, (hk _).trans h.2.2.1, (hk _).trans h.2.2.2.1, (hk _).trans h.2.2.2.2.1, (hk _).trans h.2.2.2.2.2⟩
theorem Sects.keep (h : Sects w B a l) (hk : ∀ p : Addr, p.block < B → w'.cell? p = w.cell? p) : Sects w' B a l :=
  ⟨fun hn => by
    obtain ⟨b, off, ha, hb, hc⟩ := h.row hn
    exact ⟨b, off, ha, hb, fun i y hi => (hc i y hi).keep fun _ => hk _ hb⟩, fun y hy => (h.bytes y hy).keep hk, fun y hy => (h.fixs y hy).keep hk⟩
theorem Sects.more (h : Sects w B a l) (hB : B ≤ B') : Sects w B' a l :=
  ⟨fun hn => by
    obtain ⟨b, off, ha, hb, hc⟩ := h.row hn
    exact ⟨b, off, ha, by omega, hc⟩, fun y hy => (h.bytes y hy).more hB, fun y hy => (h.fixs y hy).more hB⟩
theorem Sects.below (h : Sects w B a l) (hb : Below B w w') : Sects w' B a l := h.keep fun _ hp => hb.cell hp
theorem Sects.drewN (h : Sects w B a l) (n : Nat) : Sects (w.drewN n) B a l := ⟨h.row, h.bytes, h.fixs⟩
theorem Sects.alloc (h : Sects w B a l) (hB : B ≤ w.heap.size) (o : Obj) : Sects (w.alloc o) B a l := h.keep fun p hp => World.cell?_alloc_lt w o p (by omega)
theorem Sects.nil : Sects w B a [] := ⟨fun h => by simp at h, by simp, by simp⟩
theorem Sects.at_ (h : Sects w B a l) {i : Nat} (hi : i < l.length) : ∃ b off, a = some ⟨b, off, none⟩ ∧ b < B ∧ SecAt w b (off + i * 6) l[i] := by
  obtain ⟨b, off, ha, hb, hc⟩ := h.row (by omega)
  exact ⟨b, off, ha, hb, hc i _ (List.getElem?_eq_getElem hi)⟩
end
/-- Nothing in a section is long. -/
def Sx.short (s : Sx) : Prop := s.name.size ≤ 1048576 ∧ s.bytes.length ≤ 1048576 ∧ s.fixs.length ≤ 1048576
/-- The lengths in a section are lengths of the machine. -/
def Sx.lens (s : Sx) : Prop := s.name.size ≤ maxLen ∧ s.bytes.length ≤ 9223372036854775807 ∧ s.fixs.length ≤ 9223372036854775807
def SizedS (w : World) (l : List Sp) (e : Ending) (w' : World) : Prop :=
  ∃ r : Int, e = .returned (.int .i64 r) ∧ Below w.heap.size w w' ∧ -1 ≤ r ∧ r ≤ 1048576 ∧ (0 ≤ r → l.length ≤ 1048576 ∧ ∀ y ∈ l, y.s.short)
set_option maxRecDepth 100000 in
set_option maxHeartbeats 1000000 in
theorem szSectionS_any (w : World) (B : Nat) (a : Option Addr) (c n : Nat) (l : List Sp) (hn : n = l.length) (h : Sects w B a l) (hB : B ≤ w.heap.size) (hlen : n ≤ 9223372036854775807) (hl : ∀ y ∈ l, y.s.lens) (left : Int) (hf0 : 0 ≤ left) (hf1 : left ≤ 1048576) :
    Calls Try.prog 59 #[.slice a n c, .int .i64 left] w (SizedS w l) := by
  have HN := hidden hn
  have H1 := hidden h
  have HL := hidden hl
  clear hn h hl
  by_cases h1 : left - (n : Int) < 0
  · go_enter Try.func59, Try.ntmps59
    go_wp2_with fail
    go_ret
    exact ⟨-1, rfl, Below.refl _ _, by omega, by omega, by omega⟩
  have hn1 : n ≤ 1048576 := by omega
  obtain ⟨l0, hl0⟩ : ∃ q : Int, left - (n : Int) = q := ⟨_, rfl⟩
  have k0 : 0 ≤ l0 := by omega
  have k1 : l0 ≤ 1048576 := by omega
  go_enter Try.func59, Try.ntmps59
  go_wp2_with fail
  go_loopw [5, 1] (fun i lf wr => ∃ (k : Nat) (x : Int), i = .int .i64 k ∧ lf = .int .i64 x ∧ k ≤ n ∧ 0 ≤ x ∧ x ≤ 1048576 ∧ Hid (∀ y ∈ l.take k, y.s.short) ∧ Below w.heap.size w wr) (fun i _ _ => n - (intOf i).toNat)
  case atStart => exact ⟨0, l0, rfl, by rw [← hl0], by omega, k0, k1, hidden (by simp), Below.refl _ _⟩
  case round =>
    obtain ⟨k, x, rfl, rfl, hk, x0, x1, hs, hb⟩ := hrel
    clear hl0 k0 k1
    by_cases hlt : k < n
    · have hi : (k : Int) < (n : Int) := by omega
      have hkl : k < l.length := by rw [← HN.out]; exact hlt
      obtain ⟨b, off, rfl, _, p0, p1, p2, p3, p4, p5⟩ := (H1.out.below (hb.mono hB)).at_ hkl
      obtain ⟨y, hy⟩ : ∃ y, l[k] = y := ⟨_, rfl⟩
      rw [hy] at p0 p1 p2 p3 p4 p5
      have HY : Hid (l.take (k + 1) = l.take k ++ [y]) := by show _ = _; rw [List.take_add_one, List.getElem?_eq_getElem hkl, hy]; rfl
      have hyl := HL.out y (by rw [← hy]; exact List.getElem_mem hkl)
      have HC := hidden (szSectionG_any wr y.s y.a1 y.c1 y.a2 y.c2 hyl.1 hyl.2.1 hyl.2.2 x x0 x1)
      unfold Sx.agg at HC
      clear hy hyl hkl
      go_wp2_with fail
      refine HC.out.mono ?_
      clear HC p0 p1 p2 p3 p4 p5
      rintro e w2 ⟨r, rfl, hb2, r0, r1, hr⟩
      have hb3 := hb.trans (hb2.mono hb.size)
      clear hb hb2
      by_cases hneg : r < 0
      · clear hr
        go_wp2_with fail
        go_ret
        exact ⟨-1, rfl, hb3, by omega, by omega, by omega⟩
      have HS : Hid (∀ z ∈ l.take (k + 1), z.s.short) := fun z hz => by
        rw [HY.out] at hz
        rcases List.mem_append.1 hz with h | h
        · exact hs.out z h
        · simp only [List.mem_singleton] at h; subst h; exact hr (by omega)
      clear hr hs HY
      go_wp2_with fail
      go_roundw
      case rel => exact ⟨k + 1, r, by go_num, rfl, by omega, by omega, r1, HS, hb3⟩
      case measure => simp [intOf]; omega
    · have hi : ¬ (k : Int) < (n : Int) := by omega
      have hfin : Hid (∀ y ∈ l, y.s.short) := by
        have hkl : l.take k = l := List.take_of_length_le (by rw [← HN.out]; omega)
        rw [← hkl]; exact hs
      clear hs
      go_wp2_with fail
      go_ret
      exact ⟨x, rfl, hb, by omega, x1, fun _ => ⟨by rw [← HN.out]; exact hn1, hfin.out⟩⟩

end Go.Proofs.Ytiocchmlmcoieaa
/- Sections in a list: toSectionS. Sections in a list: eqSectionS. -/
/- Sections in a list: toSectionS. -/
namespace Go.Proofs.Ytiocchmlmcoieaa
open Go.RowKit

/-- The first cells of a row of sections are these sections'. -/
def FilledX (cs : Array Value) (n : Nat) (l : List Sp) : Prop := cs.size = n * 6 ∧ ∀ i y, l[i]? = some y → cs[i * 6]? = some (.string y.s.name) ∧ cs[i * 6 + 1]? = some (.int .i64 y.s.kind) ∧ cs[i * 6 + 2]? = some (.int .i64 y.s.align) ∧ cs[i * 6 + 3]? = some (.slice y.a1 y.s.bytes.length y.c1) ∧ cs[i * 6 + 4]? = some (.int .i64 y.s.size) ∧ cs[i * 6 + 5]? = some (.slice y.a2 y.s.fixs.length y.c2)
def putX (cs : Array Value) (k : Nat) (y : Sp) : Array Value := ((((((cs.setIfInBounds (k * 6) (.string y.s.name)).setIfInBounds (k * 6 + 1) (.int .i64 y.s.kind)).setIfInBounds (k * 6 + 2) (.int .i64 y.s.align)).setIfInBounds (k * 6 + 3) (.slice y.a1 y.s.bytes.length y.c1)).setIfInBounds (k * 6 + 4) (.int .i64 y.s.size)).setIfInBounds (k * 6 + 5) (.slice y.a2 y.s.fixs.length y.c2))
def setX (w : World) (g k : Nat) (y : Sp) : World := ((((((w.setCell ⟨g, k * 6, none⟩ (.string y.s.name)).setCell ⟨g, k * 6 + 1, none⟩ (.int .i64 y.s.kind)).setCell ⟨g, k * 6 + 2, none⟩ (.int .i64 y.s.align)).setCell ⟨g, k * 6 + 3, none⟩ (.slice y.a1 y.s.bytes.length y.c1)).setCell ⟨g, k * 6 + 4, none⟩ (.int .i64 y.s.size)).setCell ⟨g, k * 6 + 5, none⟩ (.slice y.a2 y.s.fixs.length y.c2))
theorem FilledX.next {cs : Array Value} {n k : Nat} {l : List Sp} (h : FilledX cs n l) (hl : l.length = k) (hk : k < n) (y : Sp) : FilledX (putX cs k y) n (l ++ [y]) := by
  have hs := h.1
  refine ⟨by simp [putX, hs], fun i z hz => ?_⟩
  unfold putX
  simp only [Array.getElem?_setIfInBounds, Array.size_setIfInBounds, hs]
  by_cases e : i = k
  · subst e
    rw [List.getElem?_append_right (by omega), hl, Nat.sub_self] at hz
    simp at hz
    subst hz
    refine ⟨?_, ?_, ?_, ?_, ?_, ?_⟩ <;> simp <;> omega
  · have hi : i < k := by
      have := (List.getElem?_eq_some_iff.1 hz).1
      rw [List.length_append] at this
      simp at this
      omega
    rw [List.getElem?_append_left (by omega)] at hz
    obtain ⟨c0, c1, c2, c3, c4, c5⟩ := h.2 i z hz
    refine ⟨?_, ?_, ?_, ?_, ?_, ?_⟩
    · rw [if_neg (by omega), if_neg (by omega), if_neg (by omega), if_neg (by omega), if_neg (by omega), if_neg (by omega)]; exact c0
    · rw [if_neg (by omega), if_neg (by omega), if_neg (by omega), if_neg (by omega), if_neg (by omega), if_neg (by omega)]; exact c1
    · rw [if_neg (by omega), if_neg (by omega), if_neg (by omega), if_neg (by omega), if_neg (by omega), if_neg (by omega)]; exact c2
    · rw [if_neg (by omega), if_neg (by omega), if_neg (by omega), if_neg (by omega), if_neg (by omega), if_neg (by omega)]; exact c3
    · rw [if_neg (by omega), if_neg (by omega), if_neg (by omega), if_neg (by omega), if_neg (by omega), if_neg (by omega)]; exact c4
    · rw [if_neg (by omega), if_neg (by omega), if_neg (by omega), if_neg (by omega), if_neg (by omega), if_neg (by omega)]; exact c5
/-- A section all of whose lists lie behind a block. -/
def Far (g : Nat) (w : World) (y : Sp) : Prop :=
  ∃ b1 b2, y.a1 = some ⟨b1, 0, none⟩ ∧ y.a2 = some ⟨b2, 0, none⟩ ∧ g < b1 ∧ g < b2 ∧ Ints w .u8 w.heap.size y.a1 y.s.bytes ∧ Fixs w w.heap.size y.a2 y.s.fixs ∧ (∃ cb, Has w b1 5 cb ∧ cb.size = y.s.bytes.length) ∧ (∃ cf, Has w b2 119 cf ∧ cf.size = y.s.fixs.length * 4)
theorem Far.below {g : Nat} {w w' : World} {y : Sp} (h : Far g w y) (hb : Below w.heap.size w w') : Far g w' y := by
  obtain ⟨b1, b2, h1, h2, h3, h4, h5, h6, ⟨cb, k1, k2⟩, ⟨cf, k3, k4⟩⟩ := h
  exact ⟨b1, b2, h1, h2, h3, h4, (h5.below hb).more hb.size, (h6.below hb).more hb.size, ⟨cb, k1.below hb k1.lt, k2⟩, ⟨cf, k3.below hb k3.lt, k4⟩⟩
theorem Ints.put' {w : World} {k : IntKind} {B b g : Nat} {l : List Int} (h : Ints w k B (some ⟨b, 0, none⟩) l) (hp : b ≠ g) (j : Nat) (u : Value) : Ints (w.setCell ⟨g, j, none⟩ u) k B (some ⟨b, 0, none⟩) l :=
  ⟨h.1, fun hn => by
    obtain ⟨b', off, ha, hb, hc⟩ := h.2 hn
    injection ha with ha
    injection ha with e1 e2
    subst e1; subst e2
    exact ⟨b, 0, rfl, hb, fun i hi => (World.cell?_of_block (Below.heap_setCell w ⟨g, j, none⟩ u b hp)).trans (hc i hi)⟩⟩
theorem Far.put {g : Nat} {w : World} {y : Sp} (h : Far g w y) (j : Nat) (u : Value) : Far g (w.setCell ⟨g, j, none⟩ u) y := by
  obtain ⟨b1, b2, h1, h2, h3, h4, h5, h6, ⟨cb, k1, k2⟩, ⟨cf, k3, k4⟩⟩ := h
  have hs : (w.setCell ⟨g, j, none⟩ u).heap.size = w.heap.size := by simp
  rw [h1] at h5
  rw [h2] at h6
  refine ⟨b1, b2, h1, h2, h3, h4, ?_, ?_, ⟨cb, k1.away (p := ⟨g, j, none⟩) (by show b1 ≠ g; omega) u, k2⟩, ⟨cf, k3.away (p := ⟨g, j, none⟩) (by show b2 ≠ g; omega) u, k4⟩⟩
  · rw [h1, hs]; exact h5.put' (by omega) j u
  · rw [h2, hs]; exact h6.set (p := ⟨g, j, none⟩) (by show b2 ≠ g; omega) u
theorem Far.setX {g k : Nat} {w : World} {y z : Sp} (h : Far g w z) : Far g (setX w g k y) z := (((((h.put _ _).put _ _).put _ _).put _ _).put _ _).put _ _
theorem below_setX {w w' : World} {B g : Nat} (h : Below B w w') (hg : B ≤ g) (k : Nat) (y : Sp) : Below B w (setX w' g k y) :=
  ((((((h.setCell (p := ⟨g, k * 6, none⟩) hg (.string y.s.name)).setCell (p := ⟨g, k * 6 + 1, none⟩) hg (.int .i64 y.s.kind)).setCell (p := ⟨g, k * 6 + 2, none⟩) hg (.int .i64 y.s.align)).setCell (p := ⟨g, k * 6 + 3, none⟩) hg (.slice y.a1 y.s.bytes.length y.c1)).setCell (p := ⟨g, k * 6 + 4, none⟩) hg (.int .i64 y.s.size)).setCell (p := ⟨g, k * 6 + 5, none⟩) hg (.slice y.a2 y.s.fixs.length y.c2))
theorem FilledX.sects {cs : Array Value} {n g : Nat} {w : World} {l : List Sp} (h : FilledX cs n l) (hh : Has w g 42 cs) (hf : ∀ y ∈ l, Far g w y) : Sects w w.heap.size (some ⟨g, 0, none⟩) l :=
  ⟨fun _ => ⟨g, 0, rfl, hh.lt, fun i y hi => by
    obtain ⟨c0, c1, c2, c3, c4, c5⟩ := h.2 i y hi
    rw [Nat.zero_add]
    exact ⟨(hh.cell _).trans c0, (hh.cell _).trans c1, (hh.cell _).trans c2, (hh.cell _).trans c3, (hh.cell _).trans c4, (hh.cell _).trans c5⟩⟩,
   fun y hy => (hf y hy).elim fun _ ⟨_, _, _, _, _, h5, _⟩ => h5, fun y hy => (hf y hy).elim fun _ ⟨_, _, _, _, _, _, h6, _⟩ => h6⟩
theorem Try.info_section : (Try.prog.info? 42).map (fun i => (i.zero, i.size, i.bytes)) = some (some (.agg #[.string ⟨#[]⟩, .int .i64 0, .int .i64 0, .slice none 0 0, .int .i64 0, .slice none 0 0]), 6, 88) := by kernel_rfl
set_option maxRecDepth 100000 in
set_option maxHeartbeats 2000000 in
theorem toSectionS_far (w : World) (B : Nat) (a : Option Addr) (c n : Nat) (l : List Sp) (hn : n = l.length) (h : Sects w B a l) (hB : B ≤ w.heap.size) (hlen : n ≤ 1048576) (hl : ∀ y ∈ l, y.s.short) :
    Calls Try.prog 61 #[.slice a n c] w fun e w' => ∃ l' : List Sp, l'.map Sp.s = l.map Sp.s ∧ e = .returned (.slice (some ⟨w.heap.size, 0, none⟩) n n) ∧ Sects w' w'.heap.size (some ⟨w.heap.size, 0, none⟩) l' ∧ Below w.heap.size w w' ∧ (∀ y ∈ l', Far w.heap.size w' y) ∧ (∃ cs, Has w' w.heap.size 42 cs ∧ FilledX cs n l') ∧ w.heap.size < w'.heap.size := by
  have HN := hidden hn
  have H1 := hidden h
  have HL := hidden hl
  have hst : FilledX (madeCells (Value.agg #[.string ⟨#[]⟩, .int .i64 0, .int .i64 0, .slice none 0 0, .int .i64 0, .slice none 0 0]).cells (n * 6)) n [] := ⟨by rw [size_madeCells], fun i f hi => by simp at hi⟩
  have HF := hidden hst
  have hmk := fun W => run_make_k (P := Try.prog) 27 42 _ 6 88 Try.underlying27 Try.info_section .i64 .i64 n (by omega) (by omega) W
  clear hn h hl hst
  go_enter Try.func61, Try.ntmps61
  go_wp2
  go_loopw [4] (fun i wr => ∃ (k : Nat) (cs : Array Value) (l' : List Sp), k ≤ n ∧ i = .int .i64 k ∧ Hid (l'.map Sp.s = (l.take k).map Sp.s) ∧ Hid (FilledX cs n l') ∧ Has wr w.heap.size 42 cs ∧ Hid (∀ y ∈ l', Far w.heap.size wr y) ∧ Below w.heap.size w wr) (fun i _ => n - (intOf i).toNat)
  case atStart => exact ⟨0, _, [], Nat.zero_le _, rfl, hidden rfl, HF, Has.new _ _ _, hidden (by simp), (Below.refl _ _).alloc (Nat.le_refl _) _⟩
  case round =>
    obtain ⟨k, cs, l', hk, rfl, hm, hf, hh, hfar, hb⟩ := hrel
    clear hmk HF
    by_cases hlt : k < n
    · have hkl : k < l.length := by rw [← HN.out]; exact hlt
      have hl' : l'.length = k := by
        have := congrArg List.length hm.out
        rw [List.length_map, List.length_map, List.length_take] at this
        omega
      obtain ⟨b1, o1, rfl, _, p0, p1, p2, p3, p4, p5⟩ := (H1.out.below (hb.mono hB)).at_ hkl
      obtain ⟨y, hy⟩ : ∃ y, l[k] = y := ⟨_, rfl⟩
      rw [hy] at p0 p1 p2 p3 p4 p5
      have hmem : y ∈ l := by rw [← hy]; exact List.getElem_mem hkl
      have HM2 : Hid (l.take (k + 1) = l.take k ++ [y]) := by show _ = _; rw [List.take_add_one, List.getElem?_eq_getElem hkl, hy]; rfl
      have hsh := HL.out y hmem
      have HC := hidden (toSection_far wr B y.s y.a1 y.c1 y.a2 y.c2 ((H1.out.bytes y hmem).below (hb.mono hB)) ((H1.out.fixs y hmem).below (hb.mono hB)) (Nat.le_trans hB hb.size) hsh.2.1 hsh.2.2)
      unfold Sx.agg at HC
      have HFF := hf
      have HH := hidden hh
      have hlw := hh.lt
      have HLL := hidden hl'
      clear hy hf hh hkl hmem hsh hl'
      have hi : (k : Int) < (n : Int) := by omega
      go_wp2_with fail
      refine HC.out.mono ?_
      clear HC p0 p1 p2 p3 p4 p5
      rintro e w2 ⟨g1, g2, n1, n2, rfl, hi1, hx2, hb2, hg1, hg2, hw1, cf, hw2, hwn⟩
      have hh2 : Has w2 w.heap.size 42 cs := HH.out.below hb2 HH.out.lt
      have hcs : k * 6 + 5 < cs.size := by rw [HFF.out.1]; omega
      obtain ⟨v0, hv0⟩ : ∃ v, cs[k * 6]? = some v := ⟨_, Array.getElem?_eq_getElem (by omega)⟩
      obtain ⟨v1, hv1⟩ : ∃ v, cs[k * 6 + 1]? = some v := ⟨_, Array.getElem?_eq_getElem (by omega)⟩
      obtain ⟨v2, hv2⟩ : ∃ v, cs[k * 6 + 2]? = some v := ⟨_, Array.getElem?_eq_getElem (by omega)⟩
      obtain ⟨v3, hv3⟩ : ∃ v, cs[k * 6 + 3]? = some v := ⟨_, Array.getElem?_eq_getElem (by omega)⟩
      obtain ⟨v4, hv4⟩ : ∃ v, cs[k * 6 + 4]? = some v := ⟨_, Array.getElem?_eq_getElem (by omega)⟩
      obtain ⟨v5, hv5⟩ : ∃ v, cs[k * 6 + 5]? = some v := ⟨_, Array.getElem?_eq_getElem (by omega)⟩
      have e0 := (hh2.cell (k * 6)).trans hv0
      have e1 := (hh2.cell (k * 6 + 1)).trans hv1
      have e2 := (hh2.cell (k * 6 + 2)).trans hv2
      have e3 := (hh2.cell (k * 6 + 3)).trans hv3
      have e4 := (hh2.cell (k * 6 + 4)).trans hv4
      have e5 := (hh2.cell (k * 6 + 5)).trans hv5
      have f0 := hh2.free (k * 6)
      have f1 := hh2.free (k * 6 + 1)
      have f2 := hh2.free (k * 6 + 2)
      have f3 := hh2.free (k * 6 + 3)
      have f4 := hh2.free (k * 6 + 4)
      have f5 := hh2.free (k * 6 + 5)
      have hb3 : Below w.heap.size w w2 := hb.trans (hb2.mono hb.size)
      have HY : Hid (Far w.heap.size w2 ⟨y.s, some ⟨g1, 0, none⟩, n1, some ⟨g2, 0, none⟩, n2⟩) := ⟨g1, g2, rfl, rfl, by omega, by omega, hi1, hx2, ⟨_, hw1, by simp⟩, ⟨cf, hw2, hwn⟩⟩
      have HFAR : Hid (∀ z ∈ l' ++ [⟨y.s, some ⟨g1, 0, none⟩, n1, some ⟨g2, 0, none⟩, n2⟩], Far w.heap.size (setX w2 w.heap.size k ⟨y.s, some ⟨g1, 0, none⟩, n1, some ⟨g2, 0, none⟩, n2⟩) z) := fun z hz => by
        rcases List.mem_append.1 hz with h | h
        · exact ((hfar.out z h).below hb2).setX
        · simp only [List.mem_singleton] at h; subst h; exact HY.out.setX
      have HN2 := hidden (HFF.out.next HLL.out hlt (Sp.mk y.s (some ⟨g1, 0, none⟩) n1 (some ⟨g2, 0, none⟩) n2))
      have HM3 : Hid ((l' ++ [Sp.mk y.s (some ⟨g1, 0, none⟩) n1 (some ⟨g2, 0, none⟩) n2]).map Sp.s = (l.take (k + 1)).map Sp.s) := by
        show _ = _
        rw [HM2.out, List.map_append, List.map_append, hm.out]; rfl
      have hput : Has (setX w2 w.heap.size k ⟨y.s, some ⟨g1, 0, none⟩, n1, some ⟨g2, 0, none⟩, n2⟩) w.heap.size 42 (putX cs k ⟨y.s, some ⟨g1, 0, none⟩, n1, some ⟨g2, 0, none⟩, n2⟩) :=
        (((((hh2.put _ _).put _ _).put _ _).put _ _).put _ _).put _ _
      have hbp : Below w.heap.size w (setX w2 w.heap.size k ⟨y.s, some ⟨g1, 0, none⟩, n1, some ⟨g2, 0, none⟩, n2⟩) := below_setX hb3 (Nat.le_refl _) k _
      have HP := hidden hput
      have HBP := hidden hbp
      clear hh2 hcs hv0 hv1 hv2 hv3 hv4 hv5 hb hb2 hb3 HFF HH HY hput hbp hi1 hx2 hfar hw1 hw2 hwn
      go_wp2_with fail
      go_roundw
      case rel => exact ⟨k + 1, _, _, by omega, by go_num, HM3, HN2, HP.out, HFAR, HBP.out⟩
      case measure => simp [intOf]; omega
    · have hkl : l.take k = l := List.take_of_length_le (by rw [← HN.out]; omega)
      have HA := hidden (hf.out.sects hh hfar.out)
      have HM : Hid (l'.map Sp.s = l.map Sp.s) := by show _ = _; rw [hm.out, hkl]
      have hlt2 := hh.lt
      have HFX := hf
      have hi : ¬ (k : Int) < (n : Int) := by omega
      clear hkl hf hm
      go_wp2
      go_ret
      exact ⟨l', HM.out, rfl, HA.out, hb, hfar.out, ⟨cs, hh, HFX.out⟩, hlt2⟩
theorem toSectionS_any (w : World) (B : Nat) (a : Option Addr) (c n : Nat) (l : List Sp) (hn : n = l.length) (h : Sects w B a l) (hB : B ≤ w.heap.size) (hlen : n ≤ 1048576) (hl : ∀ y ∈ l, y.s.short) :
    Calls Try.prog 61 #[.slice a n c] w fun e w' => ∃ l' : List Sp, l'.map Sp.s = l.map Sp.s ∧ e = .returned (.slice (some ⟨w.heap.size, 0, none⟩) n n) ∧ Sects w' w'.heap.size (some ⟨w.heap.size, 0, none⟩) l' ∧ Below w.heap.size w w' :=
  (toSectionS_far w B a c n l hn h hB hlen hl).mono fun _ _ ⟨l', h1, h2, h3, h4, _⟩ => ⟨l', h1, h2, h3, h4⟩
/-- A write ahead of the sections leaves them. -/
theorem Sects.put {w : World} {g : Nat} {l : List Sp} (h : Sects w w.heap.size (some ⟨g, 0, none⟩) l) (hf : ∀ y ∈ l, Far g w y) {p : Nat} (hp : p < g) (j : Nat) (u : Value) :
    Sects (w.setCell ⟨p, j, none⟩ u) (w.setCell ⟨p, j, none⟩ u).heap.size (some ⟨g, 0, none⟩) l := by
  have hs : (w.setCell ⟨p, j, none⟩ u).heap.size = w.heap.size := by simp
  have far : ∀ y ∈ l, Ints (w.setCell ⟨p, j, none⟩ u) .u8 (w.setCell ⟨p, j, none⟩ u).heap.size y.a1 y.s.bytes ∧ Fixs (w.setCell ⟨p, j, none⟩ u) (w.setCell ⟨p, j, none⟩ u).heap.size y.a2 y.s.fixs := fun y hy => by
    obtain ⟨b1, b2, h1, h2, h3, h4, h5, h6, ⟨cb, k1, k2⟩, ⟨cf, k3, k4⟩⟩ := hf y hy
    rw [h1] at h5
    rw [h2] at h6
    rw [h1, h2, hs]
    exact ⟨h5.put' (by omega) j u, h6.set (p := ⟨p, j, none⟩) (by show b2 ≠ p; omega) u⟩
  refine ⟨fun hn => ?_, fun y hy => (far y hy).1, fun y hy => (far y hy).2⟩
  obtain ⟨b, off, ha, hb, hc⟩ := h.row hn
  injection ha with ha
  injection ha with e1 e2
  subst e1; subst e2
  exact ⟨g, 0, rfl, by rw [hs]; exact hb, fun i y hi => (hc i y hi).keep fun _ => World.cell?_of_block (Below.heap_setCell w ⟨p, j, none⟩ u g (by show g ≠ p; omega))⟩
theorem Far.putLow {g : Nat} {w : World} {y : Sp} (h : Far g w y) {p : Nat} (hp : p < g) (j : Nat) (u : Value) : Far g (w.setCell ⟨p, j, none⟩ u) y := by
  obtain ⟨b1, b2, h1, h2, h3, h4, h5, h6, ⟨cb, k1, k2⟩, ⟨cf, k3, k4⟩⟩ := h
  have hs : (w.setCell ⟨p, j, none⟩ u).heap.size = w.heap.size := by simp
  rw [h1] at h5
  rw [h2] at h6
  refine ⟨b1, b2, h1, h2, h3, h4, ?_, ?_, ⟨cb, k1.away (p := ⟨p, j, none⟩) (by show b1 ≠ p; omega) u, k2⟩, ⟨cf, k3.away (p := ⟨p, j, none⟩) (by show b2 ≠ p; omega) u, k4⟩⟩
  · rw [h1, hs]; exact h5.put' (by omega) j u
  · rw [h2, hs]; exact h6.set (p := ⟨p, j, none⟩) (by show b2 ≠ p; omega) u

end Go.Proofs.Ytiocchmlmcoieaa
/- Sections in a list: eqSectionS. -/
namespace Go.Proofs.Ytiocchmlmcoieaa
open Go.RowKit

set_option maxRecDepth 100000 in
set_option maxHeartbeats 2000000 in
theorem eqSectionS_yes (w : World) (B1 B2 : Nat) (a1 a2 : Option Addr) (c1 c2 n : Nat) (l1 l2 : List Sp) (hm : l1.map Sp.s = l2.map Sp.s) (hn : n = l1.length) (h1 : Sects w B1 a1 l1) (h2 : Sects w B2 a2 l2) (hB1 : B1 ≤ w.heap.size) (hB2 : B2 ≤ w.heap.size) (hlen : n ≤ 9223372036854775807) (hl : ∀ y ∈ l1, y.s.lens) :
    Calls Try.prog 63 #[.slice a1 n c1, .slice a2 n c2] w fun e w' => e = .returned (.bool true) ∧ Below w.heap.size w w' := by
  have HM := hidden hm
  have HN := hidden hn
  have H1 := hidden h1
  have H2 := hidden h2
  have HL := hidden hl
  have hn2' : n = l2.length := by rw [hn, ← List.length_map (f := Sp.s), hm, List.length_map]
  have HN2 := hidden hn2'
  clear hm hn h1 h2 hl hn2'
  go_enter Try.func63, Try.ntmps63
  go_wp2
  go_loopw [5] (fun i wr => ∃ k : Nat, i = .int .i64 k ∧ k ≤ n ∧ Below w.heap.size w wr) (fun i _ => n - (intOf i).toNat)
  case atStart => exact ⟨0, rfl, by omega, Below.refl _ _⟩
  case round =>
    obtain ⟨k, rfl, hk, hb⟩ := hrel
    by_cases hlt : k < n
    · have hi : (k : Int) < (n : Int) := by omega
      have hkl1 : k < l1.length := by rw [← HN.out]; exact hlt
      have hkl2 : k < l2.length := by rw [← HN2.out]; exact hlt
      obtain ⟨b1, o1, rfl, _, p0, p1, p2, p3, p4, p5⟩ := (H1.out.below (hb.mono hB1)).at_ hkl1
      obtain ⟨b2, o2, rfl, _, q0, q1, q2, q3, q4, q5⟩ := (H2.out.below (hb.mono hB2)).at_ hkl2
      obtain ⟨y, hy⟩ : ∃ y, l1[k] = y := ⟨_, rfl⟩
      obtain ⟨z, hz⟩ : ∃ z, l2[k] = z := ⟨_, rfl⟩
      rw [hy] at p0 p1 p2 p3 p4 p5
      rw [hz] at q0 q1 q2 q3 q4 q5
      have hm1 : y ∈ l1 := by rw [← hy]; exact List.getElem_mem hkl1
      have hm2 : z ∈ l2 := by rw [← hz]; exact List.getElem_mem hkl2
      have hyz : z.s = y.s := by
        have e : (l1.map Sp.s)[k]? = (l2.map Sp.s)[k]? := by rw [HM.out]
        rw [List.getElem?_map, List.getElem?_map, List.getElem?_eq_getElem hkl1, List.getElem?_eq_getElem hkl2, hy, hz] at e
        simpa using e.symm
      rw [hyz] at q0 q1 q2 q3 q4 q5
      have k3 := H2.out.bytes z hm2
      have k4 := H2.out.fixs z hm2
      rw [hyz] at k3 k4
      have hyl := HL.out y hm1
      have HC := hidden (eqSection_yes wr.drew B1 B2 y.s y.a1 y.c1 y.a2 y.c2 z.a1 z.c1 z.a2 z.c2 (((H1.out.bytes y hm1).below (hb.mono hB1)).drewN 1) (((H1.out.fixs y hm1).below (hb.mono hB1)).drewN 1) ((k3.below (hb.mono hB2)).drewN 1) ((k4.below (hb.mono hB2)).drewN 1) (Nat.le_trans hB1 hb.size) (Nat.le_trans hB2 hb.size) hyl.2.1 hyl.2.2)
      unfold Sx.agg at HC
      clear hy hz hkl1 hkl2 hm1 hm2 hyz k3 k4 hyl
      go_wp2
      go_still_tail 8, (by kernel_rfl)
      change wpList _ _ _ _ _ wr.drew
      go_wp2_with (go_at_call 79; refine HC.out.mono ?_; rintro e w2 ⟨rfl, hb2⟩)
      have hb3 : Below w.heap.size w w2 := hb.drew.trans (hb2.mono hb.size)
      go_roundw
      case rel => exact ⟨k + 1, by go_num, by omega, hb3⟩
      case measure => simp [intOf]; omega
    · have hi : ¬ (k : Int) < (n : Int) := by omega
      go_wp2
      go_ret
      exact ⟨rfl, hb⟩

end Go.Proofs.Ytiocchmlmcoieaa

/-
  Symbols in memory.
-/
import Derived.Test.YtdbedkjnoppkmaaFix
import Derived.WalkSpells
import Derived.WalkLawsBesides
import Derived.Handy
import Derived.StillTailTactics
import Derived.BigQuiet
import Derived.Deep.QuietTactic
namespace Go.Proofs.Ytdbedkjnoppkmaa
open Go.RowKit

/-- A symbol. -/
structure Sm where
  name : ByteArray
  bind : Int
  loc : Int
  value : Int
def Sm.agg (f : Sm) : Value := .agg #[.string f.name, .int .i64 f.bind, .int .i64 f.loc, .int .i64 f.value]
set_option maxRecDepth 100000 in
set_option maxHeartbeats 1000000 in
theorem toSymbol_any (w : World) (f : Sm) :
    Calls Try.prog 24 #[f.agg] w fun e w' => e = .returned f.agg ∧ Below w.heap.size w w' := by
  obtain ⟨a, b, c, d⟩ := f
  unfold Sm.agg
  go_enter Try.func24, Try.ntmps24
  go_wp2
  refine bodyPost_ret (results_cell_row rfl _ _ (w.heap.size + 1) 24 #[.string a, .int .i64 b, .int .i64 c, .int .i64 d] (0, 0) _ rfl ?_ Try.underlying24 rfl (by kernel_rfl)) rfl ?_
  · have e : w.heap.size + 1 = (w.alloc (.cells #[.string a, .int .i64 b, .int .i64 c, .int .i64 d] 39)).heap.size := by simp
    rw [Below.heap_alloc _ _ _ (by simp)]
    rw [e]
    exact heap_alloc_new _ _
  exact ⟨rfl, (((Below.refl _ _).alloc (Nat.le_refl _) _).alloc (by simp) _).alloc (by simp; omega) _⟩
set_option maxRecDepth 100000 in
set_option maxHeartbeats 1000000 in
theorem eqSymbol_yes (w : World) (f : Sm) :
    Calls Try.prog 78 #[f.agg, f.agg] w fun e w' => e = .returned (.bool true) ∧ Below w.heap.size w w' := by
  obtain ⟨a, b, c, d⟩ := f
  unfold Sm.agg
  go_enter Try.func78, Try.ntmps78
  go_wp2
  go_ret
  exact ⟨rfl, (((Below.refl _ _).alloc (Nat.le_refl _) _).alloc (by simp) _)⟩
/-- The slice at address 'a' holds these symbols, in a block below 'B' (where it holds any). -/
def Syms (w : World) (B : Nat) (a : Option Addr) (fs : List Sm) : Prop :=
  0 < fs.length → ∃ b off, a = some ⟨b, off, none⟩ ∧ b < B ∧ ∀ i f, fs[i]? = some f →
    w.cell? ⟨b, off + i * 4, none⟩ = some (.string f.name) ∧ w.cell? ⟨b, off + i * 4 + 1, none⟩ = some (.int .i64 f.bind) ∧ w.cell? ⟨b, off + i * 4 + 2, none⟩ = some (.int .i64 f.loc) ∧ w.cell? ⟨b, off + i * 4 + 3, none⟩ = some (.int .i64 f.value)
section
variable {w w' : World} {B B' : Nat} {a : Option Addr} {fs : List Sm}
theorem Syms.at_ (h : Syms w B a fs) {i : Nat} (hi : i < fs.length) : ∃ b off, a = some ⟨b, off, none⟩ ∧ b < B ∧
    w.cell? ⟨b, off + i * 4, none⟩ = some (.string fs[i].name) ∧ w.cell? ⟨b, off + i * 4 + 1, none⟩ = some (.int .i64 fs[i].bind) ∧ w.cell? ⟨b, off + i * 4 + 2, none⟩ = some (.int .i64 fs[i].loc) ∧ w.cell? ⟨b, off + i * 4 + 3, none⟩ = some (.int .i64 fs[i].value) := by
  obtain ⟨b, off, ha, hb, hc⟩ := h (by omega)
  exact ⟨b, off, ha, hb, hc i _ (List.getElem?_eq_getElem hi)⟩
theorem Syms.keep (h : Syms w B a fs) (hk : ∀ p : Addr, p.block < B → w'.cell? p = w.cell? p) : Syms w' B a fs := fun hn => by
  obtain ⟨b, off, ha, hb, hc⟩ := h hn
  refine ⟨b, off, ha, hb, fun i f hi => ?_⟩
  obtain ⟨c0, c1, c2, c3⟩ := hc i f hi
  exact ⟨(hk _ hb).trans c0, (hk _ hb).trans c1, (hk _ hb).trans c2, (hk _ hb).trans c3⟩
theorem Syms.more (h : Syms w B a fs) (hB : B ≤ B') : Syms w B' a fs := fun hn => by
  obtain ⟨b, off, ha, hb, hc⟩ := h hn
  exact ⟨b, off, ha, by omega, hc⟩
theorem Syms.below (h : Syms w B a fs) (hb : Below B w w') : Syms w' B a fs := h.keep fun _ hp => hb.cell hp
theorem Syms.drewN (h : Syms w B a fs) (n : Nat) : Syms (w.drewN n) B a fs := h
theorem Syms.alloc (h : Syms w B a fs) (hB : B ≤ w.heap.size) (o : Obj) : Syms (w.alloc o) B a fs := h.keep fun p hp => World.cell?_alloc_lt w o p (by omega)
theorem Syms.set {g : Nat} (h : Syms w B (some ⟨g, 0, none⟩) fs) {p : Addr} (hp : g ≠ p.block) (u : Value) : Syms (w.setCell p u) B (some ⟨g, 0, none⟩) fs := fun hn => by
  obtain ⟨b, off, ha, hb, hc⟩ := h hn
  injection ha with ha
  injection ha with e1 e2
  subst e1; subst e2
  have hk : ∀ i, (w.setCell p u).cell? ⟨g, i, none⟩ = w.cell? ⟨g, i, none⟩ := fun i => World.cell?_of_block (Below.heap_setCell w p u g hp)
  refine ⟨g, 0, rfl, hb, fun i f hi => ?_⟩
  obtain ⟨c0, c1, c2, c3⟩ := hc i f hi
  exact ⟨(hk _).trans c0, (hk _).trans c1, (hk _).trans c2, (hk _).trans c3⟩
theorem Syms.nil : Syms w B a [] := fun h => by simp at h
end
set_option maxRecDepth 100000 in
set_option maxHeartbeats 1000000 in
theorem eqSymbolS_yes (w : World) (B1 B2 : Nat) (a1 a2 : Option Addr) (c1 c2 n : Nat) (fs : List Sm) (hn : n = fs.length) (h1 : Syms w B1 a1 fs) (h2 : Syms w B2 a2 fs) (hB1 : B1 ≤ w.heap.size) (hB2 : B2 ≤ w.heap.size) (hlen : n ≤ 9223372036854775807) :
    Calls Try.prog 57 #[.slice a1 n c1, .slice a2 n c2] w fun e w' => e = .returned (.bool true) ∧ Below w.heap.size w w' := by
  have HL := hidden hn
  have H1 := hidden h1
  have H2 := hidden h2
  clear hn h1 h2
  go_enter Try.func57, Try.ntmps57
  go_wp2
  go_loopw [5] (fun i wr => ∃ k : Nat, i = .int .i64 k ∧ k ≤ n ∧ Below w.heap.size w wr) (fun i _ => n - (intOf i).toNat)
  case atStart => exact ⟨0, rfl, by omega, Below.refl _ _⟩
  case round =>
    obtain ⟨k, rfl, hk, hb⟩ := hrel
    by_cases hlt : k < n
    · have hi : (k : Int) < (n : Int) := by omega
      have hkl : k < fs.length := by rw [← HL.out]; exact hlt
      obtain ⟨b1, o1, rfl, _, p0, p1, p2, p3⟩ := (H1.out.below (hb.mono hB1)).at_ hkl
      obtain ⟨b2, o2, rfl, _, q0, q1, q2, q3⟩ := (H2.out.below (hb.mono hB2)).at_ hkl
      obtain ⟨f, hf⟩ : ∃ f, fs[k] = f := ⟨_, rfl⟩
      rw [hf] at p0 p1 p2 p3 q0 q1 q2 q3
      clear hf hkl
      have HC := hidden (eqSymbol_yes wr.drew f)
      go_wp2
      go_still_tail 8, (by kernel_rfl)
      change wpList _ _ _ _ _ wr.drew
      go_wp2_with (go_at_call 78; refine HC.out.mono ?_; rintro e w2 ⟨rfl, hb2⟩)
      have hb3 : Below w.heap.size w w2 := hb.drew.trans (hb2.mono hb.size)
      go_roundw
      case rel => exact ⟨k + 1, by go_num, by omega, hb3⟩
      case measure => simp [intOf]; omega
    · have hi : ¬ (k : Int) < (n : Int) := by omega
      go_wp2
      go_ret
      exact ⟨rfl, hb⟩
theorem Try.info_symbol : (Try.prog.info? 24).map (fun i => (i.zero, i.size, i.bytes)) = some (some (.agg #[.string ⟨#[]⟩, .int .i64 0, .int .i64 0, .int .i64 0]), 4, 40) := by kernel_rfl
/-- The cells of a row of symbols that has been filled up to k. -/
def FilledS (cs : Array Value) (fs : List Sm) (k : Nat) : Prop :=
  cs.size = fs.length * 4 ∧ ∀ i f, i < k → fs[i]? = some f → cs[i * 4]? = some (.string f.name) ∧ cs[i * 4 + 1]? = some (.int .i64 f.bind) ∧ cs[i * 4 + 2]? = some (.int .i64 f.loc) ∧ cs[i * 4 + 3]? = some (.int .i64 f.value)
def putS (cs : Array Value) (k : Nat) (f : Sm) : Array Value :=
  (((cs.setIfInBounds (k * 4) (.string f.name)).setIfInBounds (k * 4 + 1) (.int .i64 f.bind)).setIfInBounds (k * 4 + 2) (.int .i64 f.loc)).setIfInBounds (k * 4 + 3) (.int .i64 f.value)
theorem FilledS.next {cs : Array Value} {fs : List Sm} {k : Nat} {f : Sm} (h : FilledS cs fs k) (hf : fs[k]? = some f) : FilledS (putS cs k f) fs (k + 1) := by
  have hk : k < fs.length := (List.getElem?_eq_some_iff.1 hf).1
  have hs := h.1
  refine ⟨by simp [putS, hs], fun i g hi hg => ?_⟩
  by_cases e : i = k
  · subst e
    rw [hf] at hg; injection hg with hg; subst hg
    unfold putS
    simp only [Array.getElem?_setIfInBounds, Array.size_setIfInBounds, hs]
    refine ⟨?_, ?_, ?_, ?_⟩ <;> simp <;> omega
  · obtain ⟨c0, c1, c2, c3⟩ := h.2 i g (by omega) hg
    unfold putS
    simp only [Array.getElem?_setIfInBounds, Array.size_setIfInBounds]
    refine ⟨?_, ?_, ?_, ?_⟩
    · rw [if_neg (by omega), if_neg (by omega), if_neg (by omega), if_neg (by omega)]; exact c0
    · rw [if_neg (by omega), if_neg (by omega), if_neg (by omega), if_neg (by omega)]; exact c1
    · rw [if_neg (by omega), if_neg (by omega), if_neg (by omega), if_neg (by omega)]; exact c2
    · rw [if_neg (by omega), if_neg (by omega), if_neg (by omega), if_neg (by omega)]; exact c3
theorem FilledS.syms {cs : Array Value} {fs : List Sm} {k g B : Nat} {w : World} (h : FilledS cs fs k) (hk : k = fs.length) (hh : Has w g 24 cs) (hB : g < B) : Syms w B (some ⟨g, 0, none⟩) fs := fun _ => by
  refine ⟨g, 0, rfl, hB, fun i f hi => ?_⟩
  obtain ⟨c0, c1, c2, c3⟩ := h.2 i f (by rw [hk]; exact (List.getElem?_eq_some_iff.1 hi).1) hi
  rw [Nat.zero_add]
  exact ⟨(hh.cell _).trans c0, (hh.cell _).trans c1, (hh.cell _).trans c2, (hh.cell _).trans c3⟩
set_option maxRecDepth 100000 in
set_option maxHeartbeats 1000000 in
theorem toSymbolS_has (w : World) (B : Nat) (a : Option Addr) (c n : Nat) (fs : List Sm) (hn : n = fs.length) (h : Syms w B a fs) (hB : B ≤ w.heap.size) (hlen : n ≤ 1048576) :
    Calls Try.prog 56 #[.slice a n c] w fun e w' => e = .returned (.slice (some ⟨w.heap.size, 0, none⟩) n n) ∧ Syms w' (w.heap.size + 1) (some ⟨w.heap.size, 0, none⟩) fs ∧ w.heap.size < w'.heap.size ∧ Below w.heap.size w w' ∧ (∃ cs, Has w' w.heap.size 24 cs ∧ cs.size = n * 4) := by
  have HL := hidden hn
  have hst : FilledS (madeCells (Value.agg #[.string ⟨#[]⟩, .int .i64 0, .int .i64 0, .int .i64 0]).cells (n * 4)) fs 0 := ⟨by rw [size_madeCells, hn], fun i f hi => by omega⟩
  have HF := hidden hst
  have H1 := hidden h
  have hmk := fun W => run_make_k (P := Try.prog) 31 24 _ 4 40 Try.underlying31 Try.info_symbol .i64 .i64 n (by omega) (by omega) W
  clear hn hst h
  go_enter Try.func56, Try.ntmps56
  go_wp2
  go_loopw [4] (fun i wr => ∃ (k : Nat) (cs : Array Value), k ≤ n ∧ i = .int .i64 k ∧ Hid (FilledS cs fs k) ∧ Has wr w.heap.size 24 cs ∧ Below w.heap.size w wr) (fun i _ => n - (intOf i).toNat)
  case atStart => exact ⟨0, _, Nat.zero_le _, rfl, HF, Has.new _ _ _, (Below.refl _ _).alloc (Nat.le_refl _) _⟩
  case round =>
    obtain ⟨k, cs, hk, rfl, hf, hh, hb⟩ := hrel
    clear hmk HF
    by_cases hlt : k < n
    · have hkl : k < fs.length := by rw [← HL.out]; exact hlt
      obtain ⟨b1, o1, rfl, _, p0, p1, p2, p3⟩ := (H1.out.below (hb.mono hB)).at_ hkl
      obtain ⟨f, hfk⟩ : ∃ f, fs[k] = f := ⟨_, rfl⟩
      rw [hfk] at p0 p1 p2 p3
      have HX : Hid (fs[k]? = some f) := by show _ = _; rw [List.getElem?_eq_getElem hkl, hfk]
      have HC := hidden (toSymbol_any wr f)
      have HFF := hf
      have HH := hidden hh
      clear hfk hf hh hkl
      have hi : (k : Int) < (n : Int) := by omega
      go_wp2_with fail
      refine HC.out.mono ?_
      clear HC
      rintro e w2 ⟨rfl, hb2⟩
      have hh2 : Has w2 w.heap.size 24 cs := HH.out.below hb2 HH.out.lt
      have hcs : k * 4 + 3 < cs.size := by rw [HFF.out.1, ← HL.out]; omega
      obtain ⟨v0, hv0⟩ : ∃ v, cs[k * 4]? = some v := ⟨_, Array.getElem?_eq_getElem (by omega)⟩
      obtain ⟨v1, hv1⟩ : ∃ v, cs[k * 4 + 1]? = some v := ⟨_, Array.getElem?_eq_getElem (by omega)⟩
      obtain ⟨v2, hv2⟩ : ∃ v, cs[k * 4 + 2]? = some v := ⟨_, Array.getElem?_eq_getElem (by omega)⟩
      obtain ⟨v3, hv3⟩ : ∃ v, cs[k * 4 + 3]? = some v := ⟨_, Array.getElem?_eq_getElem (by omega)⟩
      have e0 := (hh2.cell (k * 4)).trans hv0
      have e1 := (hh2.cell (k * 4 + 1)).trans hv1
      have e2 := (hh2.cell (k * 4 + 2)).trans hv2
      have e3 := (hh2.cell (k * 4 + 3)).trans hv3
      have f0 := hh2.free (k * 4)
      have f1 := hh2.free (k * 4 + 1)
      have f2 := hh2.free (k * 4 + 2)
      have f3 := hh2.free (k * 4 + 3)
      have hb3 : Below w.heap.size w w2 := hb.trans (hb2.mono hb.size)
      have HN := hidden (HFF.out.next HX.out)
      have hput : Has ((((w2.setCell ⟨w.heap.size, k * 4, none⟩ (.string f.name)).setCell ⟨w.heap.size, k * 4 + 1, none⟩ (.int .i64 f.bind)).setCell ⟨w.heap.size, k * 4 + 2, none⟩ (.int .i64 f.loc)).setCell ⟨w.heap.size, k * 4 + 3, none⟩ (.int .i64 f.value)) w.heap.size 24 (putS cs k f) :=
        (((hh2.put _ _).put _ _).put _ _).put _ _
      have hbp := (((hb3.setCell (p := ⟨w.heap.size, k * 4, none⟩) (Nat.le_refl _) (.string f.name)).setCell (p := ⟨w.heap.size, k * 4 + 1, none⟩) (Nat.le_refl _) (.int .i64 f.bind)).setCell (p := ⟨w.heap.size, k * 4 + 2, none⟩) (Nat.le_refl _) (.int .i64 f.loc)).setCell (p := ⟨w.heap.size, k * 4 + 3, none⟩) (Nat.le_refl _) (.int .i64 f.value)
      clear hh2 hcs hv0 hv1 hv2 hv3 hb hb2 hb3 HFF HH
      unfold Sm.agg
      go_wp2_with fail
      go_roundw
      case rel => exact ⟨k + 1, _, by omega, by go_num, HN, hput, hbp⟩
      case measure => simp [intOf]; omega
    · have hkl : k = fs.length := by rw [← HL.out]; omega
      have HA := hidden (hf.out.syms hkl hh (Nat.lt_succ_self _))
      have hcs : cs.size = n * 4 := by rw [hf.out.1, ← HL.out]
      have hlt' := hh.lt
      have hi : ¬ (k : Int) < (n : Int) := by omega
      clear hkl hf
      go_wp2
      go_ret
      exact ⟨rfl, HA.out, hlt', hb, cs, hh, hcs⟩
theorem toSymbolS_any (w : World) (B : Nat) (a : Option Addr) (c n : Nat) (fs : List Sm) (hn : n = fs.length) (h : Syms w B a fs) (hB : B ≤ w.heap.size) (hlen : n ≤ 1048576) :
    Calls Try.prog 56 #[.slice a n c] w fun e w' => e = .returned (.slice (some ⟨w.heap.size, 0, none⟩) n n) ∧ Syms w' (w.heap.size + 1) (some ⟨w.heap.size, 0, none⟩) fs ∧ w.heap.size < w'.heap.size ∧ Below w.heap.size w w' :=
  (toSymbolS_has w B a c n fs hn h hB hlen).mono fun _ _ ⟨h1, h2, h3, h4, _⟩ => ⟨h1, h2, h3, h4⟩

end Go.Proofs.Ytdbedkjnoppkmaa

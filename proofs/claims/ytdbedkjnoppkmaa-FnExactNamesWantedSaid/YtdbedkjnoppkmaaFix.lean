/-
  Fixups and sections in memory.
-/
import Derived.Test.YtdbedkjnoppkmaaBase
import Derived.Test.YtdbedkjnoppkmaaMem
import Derived.WalkSpells
import Derived.WalkLawsBesides
import Derived.Handy
import Derived.StillTailTactics
import Derived.BigQuiet
import Derived.Deep.QuietTactic
namespace Go.Proofs.Ytdbedkjnoppkmaa
open Go.RowKit

/-- A fixup, as numbers. -/
structure Fx where
  pl : Int
  kind : Int
  to : Int
  add : Int
def Fx.agg (f : Fx) : Value := .agg #[.int .i64 f.pl, .int .i64 f.kind, .int .i64 f.to, .int .i64 f.add]
set_option maxRecDepth 100000 in
set_option maxHeartbeats 1000000 in
theorem toFixup_any (w : World) (f : Fx) :
    Calls Try.prog 84 #[f.agg] w fun e w' => e = .returned f.agg ∧ Below w.heap.size w w' := by
  obtain ⟨a, b, c, d⟩ := f
  unfold Fx.agg
  go_enter Try.func84, Try.ntmps84
  go_wp2
  refine bodyPost_ret (results_cell_row rfl _ _ (w.heap.size + 1) 94 #[.int .i64 a, .int .i64 b, .int .i64 c, .int .i64 d] (0, 0) _ rfl ?_ Try.underlying94 rfl (by kernel_rfl)) rfl ?_
  · have e : w.heap.size + 1 = (w.alloc (.cells #[.int .i64 a, .int .i64 b, .int .i64 c, .int .i64 d] 121)).heap.size := by simp
    rw [Below.heap_alloc _ _ _ (by simp)]
    rw [e]
    exact heap_alloc_new _ _
  exact ⟨rfl, (((Below.refl _ _).alloc (Nat.le_refl _) _).alloc (by simp) _).alloc (by simp; omega) _⟩
set_option maxRecDepth 100000 in
set_option maxHeartbeats 1000000 in
theorem eqFixup_yes (w : World) (f : Fx) :
    Calls Try.prog 85 #[f.agg, f.agg] w fun e w' => e = .returned (.bool true) ∧ Below w.heap.size w w' := by
  obtain ⟨a, b, c, d⟩ := f
  unfold Fx.agg
  go_enter Try.func85, Try.ntmps85
  go_wp2
  go_ret
  exact ⟨rfl, (((Below.refl _ _).alloc (Nat.le_refl _) _).alloc (by simp) _)⟩
/-- The slice at address 'a' holds these fixups, in a block below 'B' (where it holds any). -/
def Fixs (w : World) (B : Nat) (a : Option Addr) (fs : List Fx) : Prop :=
  0 < fs.length → ∃ b off, a = some ⟨b, off, none⟩ ∧ b < B ∧ ∀ i f, fs[i]? = some f →
    w.cell? ⟨b, off + i * 4, none⟩ = some (.int .i64 f.pl) ∧ w.cell? ⟨b, off + i * 4 + 1, none⟩ = some (.int .i64 f.kind) ∧ w.cell? ⟨b, off + i * 4 + 2, none⟩ = some (.int .i64 f.to) ∧ w.cell? ⟨b, off + i * 4 + 3, none⟩ = some (.int .i64 f.add)
section
variable {w w' : World} {B B' : Nat} {a : Option Addr} {fs : List Fx}
theorem Fixs.at_ (h : Fixs w B a fs) {i : Nat} (hi : i < fs.length) : ∃ b off, a = some ⟨b, off, none⟩ ∧ b < B ∧
    w.cell? ⟨b, off + i * 4, none⟩ = some (.int .i64 fs[i].pl) ∧ w.cell? ⟨b, off + i * 4 + 1, none⟩ = some (.int .i64 fs[i].kind) ∧ w.cell? ⟨b, off + i * 4 + 2, none⟩ = some (.int .i64 fs[i].to) ∧ w.cell? ⟨b, off + i * 4 + 3, none⟩ = some (.int .i64 fs[i].add) := by
  obtain ⟨b, off, ha, hb, hc⟩ := h (by omega)
  exact ⟨b, off, ha, hb, hc i _ (List.getElem?_eq_getElem hi)⟩
theorem Fixs.keep (h : Fixs w B a fs) (hk : ∀ p : Addr, p.block < B → w'.cell? p = w.cell? p) : Fixs w' B a fs := fun hn => by
  obtain ⟨b, off, ha, hb, hc⟩ := h hn
  refine ⟨b, off, ha, hb, fun i f hi => ?_⟩
  obtain ⟨c0, c1, c2, c3⟩ := hc i f hi
  exact ⟨(hk _ hb).trans c0, (hk _ hb).trans c1, (hk _ hb).trans c2, (hk _ hb).trans c3⟩
theorem Fixs.more (h : Fixs w B a fs) (hB : B ≤ B') : Fixs w B' a fs := fun hn => by
  obtain ⟨b, off, ha, hb, hc⟩ := h hn
  exact ⟨b, off, ha, by omega, hc⟩
theorem Fixs.below (h : Fixs w B a fs) (hb : Below B w w') : Fixs w' B a fs := h.keep fun _ hp => hb.cell hp
theorem Fixs.drewN (h : Fixs w B a fs) (n : Nat) : Fixs (w.drewN n) B a fs := h
theorem Fixs.alloc (h : Fixs w B a fs) (hB : B ≤ w.heap.size) (o : Obj) : Fixs (w.alloc o) B a fs := h.keep fun p hp => World.cell?_alloc_lt w o p (by omega)
theorem Fixs.set {g : Nat} (h : Fixs w B (some ⟨g, 0, none⟩) fs) {p : Addr} (hp : g ≠ p.block) (u : Value) : Fixs (w.setCell p u) B (some ⟨g, 0, none⟩) fs := fun hn => by
  obtain ⟨b, off, ha, hb, hc⟩ := h hn
  injection ha with ha
  injection ha with e1 e2
  subst e1; subst e2
  have hk : ∀ i, (w.setCell p u).cell? ⟨g, i, none⟩ = w.cell? ⟨g, i, none⟩ := fun i => World.cell?_of_block (Below.heap_setCell w p u g hp)
  refine ⟨g, 0, rfl, hb, fun i f hi => ?_⟩
  obtain ⟨c0, c1, c2, c3⟩ := hc i f hi
  exact ⟨(hk _).trans c0, (hk _).trans c1, (hk _).trans c2, (hk _).trans c3⟩
theorem Fixs.nil : Fixs w B a [] := fun h => by simp at h
end
set_option maxRecDepth 100000 in
set_option maxHeartbeats 1000000 in
theorem eqFixupS_yes (w : World) (B1 B2 : Nat) (a1 a2 : Option Addr) (c1 c2 n : Nat) (fs : List Fx) (hn : n = fs.length) (h1 : Fixs w B1 a1 fs) (h2 : Fixs w B2 a2 fs) (hB1 : B1 ≤ w.heap.size) (hB2 : B2 ≤ w.heap.size) (hlen : n ≤ 9223372036854775807) :
    Calls Try.prog 77 #[.slice a1 n c1, .slice a2 n c2] w fun e w' => e = .returned (.bool true) ∧ Below w.heap.size w w' := by
  have HL := hidden hn
  have H1 := hidden h1
  have H2 := hidden h2
  clear hn h1 h2
  go_enter Try.func77, Try.ntmps77
  go_wp2
  go_loopw [5] (fun i wr => ∃ k : Nat, i = .int .i64 k ∧ k ≤ n ∧ Below w.heap.size w wr) (fun i _ => n - (intOf i).toNat)
  case atStart => exact ⟨0, rfl, by omega, Below.refl _ _⟩
  case round =>
    obtain ⟨k, rfl, hk, hb⟩ := hrel
    by_cases hlt : k < n
    · have hi : (k : Int) < (n : Int) := by omega
      have hkl : k < fs.length := by rw [← HL.out]; exact hlt
      obtain ⟨b1, o1, rfl, _, p0, p1, p2, p3⟩ := (H1.out.below (hb.mono hB1)).at_ hkl
      obtain ⟨b2, o2, rfl, _, q0, q1, q2, q3⟩ := (H2.out.below (hb.mono hB2)).at_ hkl
      obtain ⟨f, hf⟩ : ∃ f, fs[k] = f := ⟨_, rfl⟩
      rw [hf] at p0 p1 p2 p3 q0 q1 q2 q3
      clear hf hkl
      have HC := hidden (eqFixup_yes wr.drew f)
      go_wp2
      go_still_tail 8, (by kernel_rfl)
      change wpList _ _ _ _ _ wr.drew
      go_wp2_with (go_at_call 85; refine HC.out.mono ?_; rintro e w2 ⟨rfl, hb2⟩)
      have hb3 : Below w.heap.size w w2 := hb.drew.trans (hb2.mono hb.size)
      go_roundw
      case rel => exact ⟨k + 1, by go_num, by omega, hb3⟩
      case measure => simp [intOf]; omega
    · have hi : ¬ (k : Int) < (n : Int) := by omega
      go_wp2
      go_ret
      exact ⟨rfl, hb⟩
theorem run_make_k {P : Program} (t e : TypeId) (z : Value) (size bytes : Nat) (ht : P.underlying t = some (.slice e)) (hinfo : (P.info? e).map (fun i => (i.zero, i.size, i.bytes)) = some (some z, size, bytes))
    (kl kc : IntKind) (n : Nat) (hbytes : bytes * n ≤ 281474976710656) (h63 : n ≤ 9223372036854775807) (w : World) :
    (Instr.makeSlice t (.int kl (n : Int)) (.int kc (n : Int))).run P w = .ok (.slice (some ⟨w.heap.size, 0, none⟩) n n) (w.alloc (.cells (madeCells z.cells (n * size)) e)) := by
  obtain ⟨i, hi, hzz⟩ := Option.map_eq_some_iff.1 hinfo
  simp only [Prod.mk.injEq] at hzz
  obtain ⟨hz, hs, hb⟩ := hzz
  have hb' : (i.bytes : Int) * (n : Int) ≤ 281474976710656 := by
    have h : ((i.bytes * n : Nat) : Int) ≤ 281474976710656 := by rw [hb]; omega
    rwa [Int.natCast_mul] at h
  have hr := run_make (P := P) w t e i z ht hi hz kl kc n n (by omega) (Int.le_refl _) hb' (by omega)
  simp only [Int.toNat_natCast, hs] at hr
  exact hr
theorem Try.info_fixup : (Try.prog.info? 94).map (fun i => (i.zero, i.size, i.bytes)) = some (some (.agg #[.int .i64 0, .int .i64 0, .int .i64 0, .int .i64 0]), 4, 32) := by kernel_rfl
/-- The cells of a row of fixups that has been filled up to k. -/
def FilledF (cs : Array Value) (fs : List Fx) (k : Nat) : Prop :=
  cs.size = fs.length * 4 ∧ ∀ i f, i < k → fs[i]? = some f → cs[i * 4]? = some (.int .i64 f.pl) ∧ cs[i * 4 + 1]? = some (.int .i64 f.kind) ∧ cs[i * 4 + 2]? = some (.int .i64 f.to) ∧ cs[i * 4 + 3]? = some (.int .i64 f.add)
def putF (cs : Array Value) (k : Nat) (f : Fx) : Array Value :=
  (((cs.setIfInBounds (k * 4) (.int .i64 f.pl)).setIfInBounds (k * 4 + 1) (.int .i64 f.kind)).setIfInBounds (k * 4 + 2) (.int .i64 f.to)).setIfInBounds (k * 4 + 3) (.int .i64 f.add)
theorem FilledF.next {cs : Array Value} {fs : List Fx} {k : Nat} {f : Fx} (h : FilledF cs fs k) (hf : fs[k]? = some f) : FilledF (putF cs k f) fs (k + 1) := by
  have hk : k < fs.length := (List.getElem?_eq_some_iff.1 hf).1
  have hs := h.1
  refine ⟨by simp [putF, hs], fun i g hi hg => ?_⟩
  by_cases e : i = k
  · subst e
    rw [hf] at hg; injection hg with hg; subst hg
    unfold putF
    simp only [Array.getElem?_setIfInBounds, Array.size_setIfInBounds, hs]
    refine ⟨?_, ?_, ?_, ?_⟩ <;> simp <;> omega
  · obtain ⟨c0, c1, c2, c3⟩ := h.2 i g (by omega) hg
    unfold putF
    simp only [Array.getElem?_setIfInBounds, Array.size_setIfInBounds]
    refine ⟨?_, ?_, ?_, ?_⟩
    · rw [if_neg (by omega), if_neg (by omega), if_neg (by omega), if_neg (by omega)]; exact c0
    · rw [if_neg (by omega), if_neg (by omega), if_neg (by omega), if_neg (by omega)]; exact c1
    · rw [if_neg (by omega), if_neg (by omega), if_neg (by omega), if_neg (by omega)]; exact c2
    · rw [if_neg (by omega), if_neg (by omega), if_neg (by omega), if_neg (by omega)]; exact c3
theorem FilledF.fixs {cs : Array Value} {fs : List Fx} {k g B : Nat} {w : World} (h : FilledF cs fs k) (hk : k = fs.length) (hh : Has w g 94 cs) (hB : g < B) : Fixs w B (some ⟨g, 0, none⟩) fs := fun _ => by
  refine ⟨g, 0, rfl, hB, fun i f hi => ?_⟩
  obtain ⟨c0, c1, c2, c3⟩ := h.2 i f (by rw [hk]; exact (List.getElem?_eq_some_iff.1 hi).1) hi
  rw [Nat.zero_add]
  exact ⟨(hh.cell _).trans c0, (hh.cell _).trans c1, (hh.cell _).trans c2, (hh.cell _).trans c3⟩
set_option maxRecDepth 100000 in
set_option maxHeartbeats 1000000 in
theorem toFixupS_has (w : World) (B : Nat) (a : Option Addr) (c n : Nat) (fs : List Fx) (hn : n = fs.length) (h : Fixs w B a fs) (hB : B ≤ w.heap.size) (hlen : n ≤ 1048576) :
    Calls Try.prog 75 #[.slice a n c] w fun e w' => e = .returned (.slice (some ⟨w.heap.size, 0, none⟩) n n) ∧ Fixs w' (w.heap.size + 1) (some ⟨w.heap.size, 0, none⟩) fs ∧ w.heap.size < w'.heap.size ∧ Below w.heap.size w w' ∧ (∃ cs, Has w' w.heap.size 94 cs ∧ cs.size = n * 4) := by
  have HL := hidden hn
  have hst : FilledF (madeCells (Value.agg #[.int .i64 0, .int .i64 0, .int .i64 0, .int .i64 0]).cells (n * 4)) fs 0 := ⟨by rw [size_madeCells, hn], fun i f hi => by omega⟩
  have HF := hidden hst
  have H1 := hidden h
  have hmk := fun W => run_make_k (P := Try.prog) 59 94 _ 4 32 Try.underlying59 Try.info_fixup .i64 .i64 n (by omega) (by omega) W
  clear hn hst h
  go_enter Try.func75, Try.ntmps75
  go_wp2
  go_loopw [4] (fun i wr => ∃ (k : Nat) (cs : Array Value), k ≤ n ∧ i = .int .i64 k ∧ Hid (FilledF cs fs k) ∧ Has wr w.heap.size 94 cs ∧ Below w.heap.size w wr) (fun i _ => n - (intOf i).toNat)
  case atStart => exact ⟨0, _, Nat.zero_le _, rfl, HF, Has.new _ _ _, (Below.refl _ _).alloc (Nat.le_refl _) _⟩
  case round =>
    obtain ⟨k, cs, hk, rfl, hf, hh, hb⟩ := hrel
    clear hmk HF
    by_cases hlt : k < n
    · have hkl : k < fs.length := by rw [← HL.out]; exact hlt
      obtain ⟨b1, o1, rfl, _, p0, p1, p2, p3⟩ := (H1.out.below (hb.mono hB)).at_ hkl
      obtain ⟨f, hfk⟩ : ∃ f, fs[k] = f := ⟨_, rfl⟩
      rw [hfk] at p0 p1 p2 p3
      have HX : Hid (fs[k]? = some f) := by show _ = _; rw [List.getElem?_eq_getElem hkl, hfk]
      have HC := hidden (toFixup_any wr f)
      have HFF := hf
      have HH := hidden hh
      clear hfk hf hh hkl
      have hi : (k : Int) < (n : Int) := by omega
      go_wp2_with fail
      refine HC.out.mono ?_
      clear HC
      rintro e w2 ⟨rfl, hb2⟩
      have hh2 : Has w2 w.heap.size 94 cs := HH.out.below hb2 HH.out.lt
      have hcs : k * 4 + 3 < cs.size := by rw [HFF.out.1, ← HL.out]; omega
      obtain ⟨v0, hv0⟩ : ∃ v, cs[k * 4]? = some v := ⟨_, Array.getElem?_eq_getElem (by omega)⟩
      obtain ⟨v1, hv1⟩ : ∃ v, cs[k * 4 + 1]? = some v := ⟨_, Array.getElem?_eq_getElem (by omega)⟩
      obtain ⟨v2, hv2⟩ : ∃ v, cs[k * 4 + 2]? = some v := ⟨_, Array.getElem?_eq_getElem (by omega)⟩
      obtain ⟨v3, hv3⟩ : ∃ v, cs[k * 4 + 3]? = some v := ⟨_, Array.getElem?_eq_getElem (by omega)⟩
      have e0 := (hh2.cell (k * 4)).trans hv0
      have e1 := (hh2.cell (k * 4 + 1)).trans hv1
      have e2 := (hh2.cell (k * 4 + 2)).trans hv2
      have e3 := (hh2.cell (k * 4 + 3)).trans hv3
      have f0 := hh2.free (k * 4)
      have f1 := hh2.free (k * 4 + 1)
      have f2 := hh2.free (k * 4 + 2)
      have f3 := hh2.free (k * 4 + 3)
      have hb3 : Below w.heap.size w w2 := hb.trans (hb2.mono hb.size)
      have HN := hidden (HFF.out.next HX.out)
      have hput : Has ((((w2.setCell ⟨w.heap.size, k * 4, none⟩ (.int .i64 f.pl)).setCell ⟨w.heap.size, k * 4 + 1, none⟩ (.int .i64 f.kind)).setCell ⟨w.heap.size, k * 4 + 2, none⟩ (.int .i64 f.to)).setCell ⟨w.heap.size, k * 4 + 3, none⟩ (.int .i64 f.add)) w.heap.size 94 (putF cs k f) :=
        (((hh2.put _ _).put _ _).put _ _).put _ _
      have hbp := (((hb3.setCell (p := ⟨w.heap.size, k * 4, none⟩) (Nat.le_refl _) (.int .i64 f.pl)).setCell (p := ⟨w.heap.size, k * 4 + 1, none⟩) (Nat.le_refl _) (.int .i64 f.kind)).setCell (p := ⟨w.heap.size, k * 4 + 2, none⟩) (Nat.le_refl _) (.int .i64 f.to)).setCell (p := ⟨w.heap.size, k * 4 + 3, none⟩) (Nat.le_refl _) (.int .i64 f.add)
      clear hh2 hcs hv0 hv1 hv2 hv3 hb hb2 hb3 HFF HH
      unfold Fx.agg
      go_wp2_with fail
      go_roundw
      case rel => exact ⟨k + 1, _, by omega, by go_num, HN, hput, hbp⟩
      case measure => simp [intOf]; omega
    · have hkl : k = fs.length := by rw [← HL.out]; omega
      have HA := hidden (hf.out.fixs hkl hh (Nat.lt_succ_self _))
      have hcs : cs.size = n * 4 := by rw [hf.out.1, ← HL.out]
      have hlt' := hh.lt
      have hi : ¬ (k : Int) < (n : Int) := by omega
      clear hkl hf
      go_wp2
      go_ret
      exact ⟨rfl, HA.out, hlt', hb, cs, hh, hcs⟩
theorem toFixupS_any (w : World) (B : Nat) (a : Option Addr) (c n : Nat) (fs : List Fx) (hn : n = fs.length) (h : Fixs w B a fs) (hB : B ≤ w.heap.size) (hlen : n ≤ 1048576) :
    Calls Try.prog 75 #[.slice a n c] w fun e w' => e = .returned (.slice (some ⟨w.heap.size, 0, none⟩) n n) ∧ Fixs w' (w.heap.size + 1) (some ⟨w.heap.size, 0, none⟩) fs ∧ w.heap.size < w'.heap.size ∧ Below w.heap.size w w' :=
  (toFixupS_has w B a c n fs hn h hB hlen).mono fun _ _ ⟨h1, h2, h3, h4, _⟩ => ⟨h1, h2, h3, h4⟩

end Go.Proofs.Ytdbedkjnoppkmaa

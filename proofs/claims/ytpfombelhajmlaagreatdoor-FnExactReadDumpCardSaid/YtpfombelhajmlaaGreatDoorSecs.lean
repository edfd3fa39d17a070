import Derived.WalkSpells
import Derived.WalkLawsBesides
import Derived.Handy
import Derived.StillTailTactics
import Derived.BigQuiet
import Derived.Deep.QuietTactic
import Derived.Test.YtpfombelhajmlaaGreatDoorBase
import Derived.Test.YtpfombelhajmlaaGreatDoorMem
import Derived.Test.YtpfombelhajmlaaGreatDoorPlaceS
import Derived.Test.YtpfombelhajmlaaGreatDoorNum
namespace Go.Proofs.YtpfombelhajmlaaGreatDoor
open Go.RowKit
structure Fx where
  pl : Int
  kind : Int
  to : Int
  add : Int
def Fx.agg (f : Fx) : Value := .agg #[.int .i64 f.pl, .int .i64 f.kind, .int .i64 f.to, .int .i64 f.add]
set_option maxRecDepth 100000 in
set_option maxHeartbeats 1000000 in
theorem eqFixup_yes (w : World) (f : Fx) :
    Calls Tryz.prog 98 #[f.agg, f.agg] w fun e w' => e = .returned (.bool true) ∧ Below w.heap.size w w' := by
  obtain ⟨a, b, c, d⟩ := f
  unfold Fx.agg
  go_enter Tryz.func98, Tryz.ntmps98
  go_wp2
  go_ret
  exact ⟨rfl, (((Below.refl _ _).alloc (Nat.le_refl _) _).alloc (by simp) _)⟩
def Fixs (w : World) (B : Nat) (a : Option Addr) (fs : List Fx) : Prop :=
  0 < fs.length → ∃ b off, a = some ⟨b, off, none⟩ ∧ b < B ∧ ∀ i f, fs[i]? = some f →
    w.cell? ⟨b, off + i * 4, none⟩ = some (.int .i64 f.pl) ∧ w.cell? ⟨b, off + i * 4 + 1, none⟩ = some (.int .i64 f.kind) ∧ w.cell? ⟨b, off + i * 4 + 2, none⟩ = some (.int .i64 f.to) ∧ w.cell? ⟨b, off + i * 4 + 3, none⟩ = some (.int .i64 f.add)
section
variable {w w' : World} {B B' : Nat} {a : Option Addr} {fs : List Fx}
theorem Fixs.at_ (h : Fixs w B a fs) {i : Nat} (hi : i < fs.length) : ∃ b off, a = some ⟨b, off, none⟩ ∧ b < B ∧
    w.cell? ⟨b, off + i * 4, none⟩ = some (.int .i64 fs[i].pl) ∧ w.cell? ⟨b, off + i * 4 + 1, none⟩ = some (.int .i64 fs[i].kind) ∧ w.cell? ⟨b, off + i * 4 + 2, none⟩ = some (.int .i64 fs[i].to) ∧ w.cell? ⟨b, off + i * 4 + 3, none⟩ = some (.int .i64 fs[i].add) := by
  obtain ⟨b, off, ha, hb, hc⟩ := h (by omega)
  exact ⟨b, off, ha, hb, hc i _ (List.getElem?_eq_getElem hi)⟩
theorem Fixs.keep (h : Fixs w B a fs) (hk : ∀ p : Addr, p.block < B → w'.cell? p = w.cell? p) : Fixs w' B a fs := fun hn => by
  obtain ⟨b, off, ha, hb, hc⟩ := h hn
  refine ⟨b, off, ha, hb, fun i f hi => ?_⟩
  obtain ⟨c0, c1, c2, c3⟩ := hc i f hi
  exact ⟨(hk _ hb).trans c0, (hk _ hb).trans c1, (hk _ hb).trans c2, (hk _ hb).trans c3⟩
theorem Fixs.more (h : Fixs w B a fs) (hB : B ≤ B') : Fixs w B' a fs := fun hn => by
  obtain ⟨b, off, ha, hb, hc⟩ := h hn
  exact ⟨b, off, ha, by omega, hc⟩
theorem Fixs.below (h : Fixs w B a fs) (hb : Below B w w') : Fixs w' B a fs := h.keep fun _ hp => hb.cell hp
theorem Fixs.drewN (h : Fixs w B a fs) (n : Nat) : Fixs (w.drewN n) B a fs := h
theorem Fixs.alloc (h : Fixs w B a fs) (hB : B ≤ w.heap.size) (o : Obj) : Fixs (w.alloc o) B a fs := h.keep fun p hp => World.cell?_alloc_lt w o p (by omega)
theorem Fixs.set {g : Nat} (h : Fixs w B (some ⟨g, 0, none⟩) fs) {p : Addr} (hp : g ≠ p.block) (u : Value) : Fixs (w.setCell p u) B (some ⟨g, 0, none⟩) fs := fun hn => by
  obtain ⟨b, off, ha, hb, hc⟩ := h hn
  injection ha with ha
  injection ha with e1 e2
  subst e1; subst e2
  have hk : ∀ i, (w.setCell p u).cell? ⟨g, i, none⟩ = w.cell? ⟨g, i, none⟩ := fun i => World.cell?_of_block (Below.heap_setCell w p u g hp)
  refine ⟨g, 0, rfl, hb, fun i f hi => ?_⟩
  obtain ⟨c0, c1, c2, c3⟩ := hc i f hi
  exact ⟨(hk _).trans c0, (hk _).trans c1, (hk _).trans c2, (hk _).trans c3⟩
theorem Fixs.nil : Fixs w B a [] := fun h => by simp at h
end
set_option maxRecDepth 100000 in
set_option maxHeartbeats 1000000 in
theorem eqFixupS_yes (w : World) (B1 B2 : Nat) (a1 a2 : Option Addr) (c1 c2 n : Nat) (fs : List Fx) (hn : n = fs.length) (h1 : Fixs w B1 a1 fs) (h2 : Fixs w B2 a2 fs) (hB1 : B1 ≤ w.heap.size) (hB2 : B2 ≤ w.heap.size) (hlen : n ≤ 9223372036854775807) :
    Calls Tryz.prog 88 #[.slice a1 n c1, .slice a2 n c2] w fun e w' => e = .returned (.bool true) ∧ Below w.heap.size w w' := by
  have HL := hidden hn
  have H1 := hidden h1
  have H2 := hidden h2
  clear hn h1 h2
  go_enter Tryz.func88, Tryz.ntmps88
  go_wp2
  go_loopw [5] (fun i wr => ∃ k : Nat, i = .int .i64 k ∧ k ≤ n ∧ Below w.heap.size w wr) (fun i _ => n - (intOf i).toNat)
  case atStart => exact ⟨0, rfl, by omega, Below.refl _ _⟩
  case round =>
    obtain ⟨k, rfl, hk, hb⟩ := hrel
    by_cases hlt : k < n
    · have hi : (k : Int) < (n : Int) := by omega
      have hkl : k < fs.length := by rw [← HL.out]; exact hlt
      obtain ⟨b1, o1, rfl, _, p0, p1, p2, p3⟩ := (H1.out.below (hb.mono hB1)).at_ hkl
      obtain ⟨b2, o2, rfl, _, q0, q1, q2, q3⟩ := (H2.out.below (hb.mono hB2)).at_ hkl
      obtain ⟨f, hf⟩ : ∃ f, fs[k] = f := ⟨_, rfl⟩
      rw [hf] at p0 p1 p2 p3 q0 q1 q2 q3
      clear hf hkl
      have HC := hidden (eqFixup_yes wr.drew f)
      go_wp2
      go_still_tail 8, (by kernel_rfl)
      change wpList _ _ _ _ _ wr.drew
      go_wp2_with (go_at_call 98; refine HC.out.mono ?_; rintro e w2 ⟨rfl, hb2⟩)
      have hb3 : Below w.heap.size w w2 := hb.drew.trans (hb2.mono hb.size)
      go_roundw
      case rel => exact ⟨k + 1, by go_num, by omega, hb3⟩
      case measure => simp [intOf]; omega
    · have hi : ¬ (k : Int) < (n : Int) := by omega
      go_wp2
      go_ret
      exact ⟨rfl, hb⟩
theorem Tryz.info_fixup : (Tryz.prog.info? 55).map (fun i => (i.zero, i.size, i.bytes)) = some (some (.agg #[.int .i64 0, .int .i64 0, .int .i64 0, .int .i64 0]), 4, 32) := by kernel_rfl
def FilledF (cs : Array Value) (fs : List Fx) (k : Nat) : Prop :=
  cs.size = fs.length * 4 ∧ ∀ i f, i < k → fs[i]? = some f → cs[i * 4]? = some (.int .i64 f.pl) ∧ cs[i * 4 + 1]? = some (.int .i64 f.kind) ∧ cs[i * 4 + 2]? = some (.int .i64 f.to) ∧ cs[i * 4 + 3]? = some (.int .i64 f.add)
def putF (cs : Array Value) (k : Nat) (f : Fx) : Array Value :=
  (((cs.setIfInBounds (k * 4) (.int .i64 f.pl)).setIfInBounds (k * 4 + 1) (.int .i64 f.kind)).setIfInBounds (k * 4 + 2) (.int .i64 f.to)).setIfInBounds (k * 4 + 3) (.int .i64 f.add)
theorem FilledF.next {cs : Array Value} {fs : List Fx} {k : Nat} {f : Fx} (h : FilledF cs fs k) (hf : fs[k]? = some f) : FilledF (putF cs k f) fs (k + 1) := by
  have hk : k < fs.length := (List.getElem?_eq_some_iff.1 hf).1
  have hs := h.1
  refine ⟨by simp [putF, hs], fun i g hi hg => ?_⟩
  by_cases e : i = k
  · subst e
    rw [hf] at hg; injection hg with hg; subst hg
    unfold putF
    simp only [Array.getElem?_setIfInBounds, Array.size_setIfInBounds, hs]
    refine ⟨?_, ?_, ?_, ?_⟩ <;> simp <;> omega
  · obtain ⟨c0, c1, c2, c3⟩ := h.2 i g (by omega) hg
    unfold putF
    simp only [Array.getElem?_setIfInBounds, Array.size_setIfInBounds]
    refine ⟨?_, ?_, ?_, ?_⟩
    · rw [if_neg (by omega), if_neg (by omega), if_neg (by omega), if_neg (by omega)]; exact c0
    · rw [if_neg (by omega), if_neg (by omega), if_neg (by omega), if_neg (by omega)]; exact c1
    · rw [if_neg (by omega), if_neg (by omega), if_neg (by omega), if_neg (by omega)]; exact c2
    · rw [if_neg (by omega), if_neg (by omega), if_neg (by omega), if_neg (by omega)]; exact c3
theorem FilledF.fixs {cs : Array Value} {fs : List Fx} {k g B : Nat} {w : World} (h : FilledF cs fs k) (hk : k = fs.length) (hh : Has w g 55 cs) (hB : g < B) : Fixs w B (some ⟨g, 0, none⟩) fs := fun _ => by
  refine ⟨g, 0, rfl, hB, fun i f hi => ?_⟩
  obtain ⟨c0, c1, c2, c3⟩ := h.2 i f (by rw [hk]; exact (List.getElem?_eq_some_iff.1 hi).1) hi
  rw [Nat.zero_add]
  exact ⟨(hh.cell _).trans c0, (hh.cell _).trans c1, (hh.cell _).trans c2, (hh.cell _).trans c3⟩
end Go.Proofs.YtpfombelhajmlaaGreatDoor
namespace Go.Proofs.YtpfombelhajmlaaGreatDoor
open Go.RowKit
structure Sm where
  name : ByteArray
  bind : Int
  loc : Int
  value : Int
def Sm.agg (f : Sm) : Value := .agg #[.string f.name, .int .i64 f.bind, .int .i64 f.loc, .int .i64 f.value]
set_option maxRecDepth 100000 in
set_option maxHeartbeats 1000000 in
theorem eqSymbol_yes (w : World) (f : Sm) :
    Calls Tryz.prog 69 #[f.agg, f.agg] w fun e w' => e = .returned (.bool true) ∧ Below w.heap.size w w' := by
  obtain ⟨a, b, c, d⟩ := f
  unfold Sm.agg
  go_enter Tryz.func69, Tryz.ntmps69
  go_wp2
  go_ret
  exact ⟨rfl, (((Below.refl _ _).alloc (Nat.le_refl _) _).alloc (by simp) _)⟩
def Syms (w : World) (B : Nat) (a : Option Addr) (fs : List Sm) : Prop :=
  0 < fs.length → ∃ b off, a = some ⟨b, off, none⟩ ∧ b < B ∧ ∀ i f, fs[i]? = some f →
    w.cell? ⟨b, off + i * 4, none⟩ = some (.string f.name) ∧ w.cell? ⟨b, off + i * 4 + 1, none⟩ = some (.int .i64 f.bind) ∧ w.cell? ⟨b, off + i * 4 + 2, none⟩ = some (.int .i64 f.loc) ∧ w.cell? ⟨b, off + i * 4 + 3, none⟩ = some (.int .i64 f.value)
section
variable {w w' : World} {B B' : Nat} {a : Option Addr} {fs : List Sm}
theorem Syms.at_ (h : Syms w B a fs) {i : Nat} (hi : i < fs.length) : ∃ b off, a = some ⟨b, off, none⟩ ∧ b < B ∧
    w.cell? ⟨b, off + i * 4, none⟩ = some (.string fs[i].name) ∧ w.cell? ⟨b, off + i * 4 + 1, none⟩ = some (.int .i64 fs[i].bind) ∧ w.cell? ⟨b, off + i * 4 + 2, none⟩ = some (.int .i64 fs[i].loc) ∧ w.cell? ⟨b, off + i * 4 + 3, none⟩ = some (.int .i64 fs[i].value) := by
  obtain ⟨b, off, ha, hb, hc⟩ := h (by omega)
  exact ⟨b, off, ha, hb, hc i _ (List.getElem?_eq_getElem hi)⟩
theorem Syms.keep (h : Syms w B a fs) (hk : ∀ p : Addr, p.block < B → w'.cell? p = w.cell? p) : Syms w' B a fs := fun hn => by
  obtain ⟨b, off, ha, hb, hc⟩ := h hn
  refine ⟨b, off, ha, hb, fun i f hi => ?_⟩
  obtain ⟨c0, c1, c2, c3⟩ := hc i f hi
  exact ⟨(hk _ hb).trans c0, (hk _ hb).trans c1, (hk _ hb).trans c2, (hk _ hb).trans c3⟩
theorem Syms.more (h : Syms w B a fs) (hB : B ≤ B') : Syms w B' a fs := fun hn => by
  obtain ⟨b, off, ha, hb, hc⟩ := h hn
  exact ⟨b, off, ha, by omega, hc⟩
theorem Syms.below (h : Syms w B a fs) (hb : Below B w w') : Syms w' B a fs := h.keep fun _ hp => hb.cell hp
theorem Syms.drewN (h : Syms w B a fs) (n : Nat) : Syms (w.drewN n) B a fs := h
theorem Syms.alloc (h : Syms w B a fs) (hB : B ≤ w.heap.size) (o : Obj) : Syms (w.alloc o) B a fs := h.keep fun p hp => World.cell?_alloc_lt w o p (by omega)
theorem Syms.set {g : Nat} (h : Syms w B (some ⟨g, 0, none⟩) fs) {p : Addr} (hp : g ≠ p.block) (u : Value) : Syms (w.setCell p u) B (some ⟨g, 0, none⟩) fs := fun hn => by
  obtain ⟨b, off, ha, hb, hc⟩ := h hn
  injection ha with ha
  injection ha with e1 e2
  subst e1; subst e2
  have hk : ∀ i, (w.setCell p u).cell? ⟨g, i, none⟩ = w.cell? ⟨g, i, none⟩ := fun i => World.cell?_of_block (Below.heap_setCell w p u g hp)
  refine ⟨g, 0, rfl, hb, fun i f hi => ?_⟩
  obtain ⟨c0, c1, c2, c3⟩ := hc i f hi
  exact ⟨(hk _).trans c0, (hk _).trans c1, (hk _).trans c2, (hk _).trans c3⟩
theorem Syms.nil : Syms w B a [] := fun h => by simp at h
end
set_option maxRecDepth 100000 in
set_option maxHeartbeats 1000000 in
theorem eqSymbolS_yes (w : World) (B1 B2 : Nat) (a1 a2 : Option Addr) (c1 c2 n : Nat) (fs : List Sm) (hn : n = fs.length) (h1 : Syms w B1 a1 fs) (h2 : Syms w B2 a2 fs) (hB1 : B1 ≤ w.heap.size) (hB2 : B2 ≤ w.heap.size) (hlen : n ≤ 9223372036854775807) :
    Calls Tryz.prog 45 #[.slice a1 n c1, .slice a2 n c2] w fun e w' => e = .returned (.bool true) ∧ Below w.heap.size w w' := by
  have HL := hidden hn
  have H1 := hidden h1
  have H2 := hidden h2
  clear hn h1 h2
  go_enter Tryz.func45, Tryz.ntmps45
  go_wp2
  go_loopw [5] (fun i wr => ∃ k : Nat, i = .int .i64 k ∧ k ≤ n ∧ Below w.heap.size w wr) (fun i _ => n - (intOf i).toNat)
  case atStart => exact ⟨0, rfl, by omega, Below.refl _ _⟩
  case round =>
    obtain ⟨k, rfl, hk, hb⟩ := hrel
    by_cases hlt : k < n
    · have hi : (k : Int) < (n : Int) := by omega
      have hkl : k < fs.length := by rw [← HL.out]; exact hlt
      obtain ⟨b1, o1, rfl, _, p0, p1, p2, p3⟩ := (H1.out.below (hb.mono hB1)).at_ hkl
      obtain ⟨b2, o2, rfl, _, q0, q1, q2, q3⟩ := (H2.out.below (hb.mono hB2)).at_ hkl
      obtain ⟨f, hf⟩ : ∃ f, fs[k] = f := ⟨_, rfl⟩
      rw [hf] at p0 p1 p2 p3 q0 q1 q2 q3
      clear hf hkl
      have HC := hidden (eqSymbol_yes wr.drew f)
      go_wp2
      go_still_tail 8, (by kernel_rfl)
      change wpList _ _ _ _ _ wr.drew
      go_wp2_with (go_at_call 69; refine HC.out.mono ?_; rintro e w2 ⟨rfl, hb2⟩)
      have hb3 : Below w.heap.size w w2 := hb.drew.trans (hb2.mono hb.size)
      go_roundw
      case rel => exact ⟨k + 1, by go_num, by omega, hb3⟩
      case measure => simp [intOf]; omega
    · have hi : ¬ (k : Int) < (n : Int) := by omega
      go_wp2
      go_ret
      exact ⟨rfl, hb⟩
theorem Tryz.info_symbol : (Tryz.prog.info? 58).map (fun i => (i.zero, i.size, i.bytes)) = some (some (.agg #[.string ⟨#[]⟩, .int .i64 0, .int .i64 0, .int .i64 0]), 4, 40) := by kernel_rfl
def FilledS (cs : Array Value) (fs : List Sm) (k : Nat) : Prop :=
  cs.size = fs.length * 4 ∧ ∀ i f, i < k → fs[i]? = some f → cs[i * 4]? = some (.string f.name) ∧ cs[i * 4 + 1]? = some (.int .i64 f.bind) ∧ cs[i * 4 + 2]? = some (.int .i64 f.loc) ∧ cs[i * 4 + 3]? = some (.int .i64 f.value)
def putS (cs : Array Value) (k : Nat) (f : Sm) : Array Value :=
  (((cs.setIfInBounds (k * 4) (.string f.name)).setIfInBounds (k * 4 + 1) (.int .i64 f.bind)).setIfInBounds (k * 4 + 2) (.int .i64 f.loc)).setIfInBounds (k * 4 + 3) (.int .i64 f.value)
theorem FilledS.next {cs : Array Value} {fs : List Sm} {k : Nat} {f : Sm} (h : FilledS cs fs k) (hf : fs[k]? = some f) : FilledS (putS cs k f) fs (k + 1) := by
  have hk : k < fs.length := (List.getElem?_eq_some_iff.1 hf).1
  have hs := h.1
  refine ⟨by simp [putS, hs], fun i g hi hg => ?_⟩
  by_cases e : i = k
  · subst e
    rw [hf] at hg; injection hg with hg; subst hg
    unfold putS
    simp only [Array.getElem?_setIfInBounds, Array.size_setIfInBounds, hs]
    refine ⟨?_, ?_, ?_, ?_⟩ <;> simp <;> omega
  · obtain ⟨c0, c1, c2, c3⟩ := h.2 i g (by omega) hg
    unfold putS
    simp only [Array.getElem?_setIfInBounds, Array.size_setIfInBounds]
    refine ⟨?_, ?_, ?_, ?_⟩
    · rw [if_neg (by omega), if_neg (by omega), if_neg (by omega), if_neg (by omega)]; exact c0
    · rw [if_neg (by omega), if_neg (by omega), if_neg (by omega), if_neg (by omega)]; exact c1
    · rw [if_neg (by omega), if_neg (by omega), if_neg (by omega), if_neg (by omega)]; exact c2
    · rw [if_neg (by omega), if_neg (by omega), if_neg (by omega), if_neg (by omega)]; exact c3
theorem FilledS.syms {cs : Array Value} {fs : List Sm} {k g B : Nat} {w : World} (h : FilledS cs fs k) (hk : k = fs.length) (hh : Has w g 58 cs) (hB : g < B) : Syms w B (some ⟨g, 0, none⟩) fs := fun _ => by
  refine ⟨g, 0, rfl, hB, fun i f hi => ?_⟩
  obtain ⟨c0, c1, c2, c3⟩ := h.2 i f (by rw [hk]; exact (List.getElem?_eq_some_iff.1 hi).1) hi
  rw [Nat.zero_add]
  exact ⟨(hh.cell _).trans c0, (hh.cell _).trans c1, (hh.cell _).trans c2, (hh.cell _).trans c3⟩
end Go.Proofs.YtpfombelhajmlaaGreatDoor
namespace Go.Proofs.YtpfombelhajmlaaGreatDoor
open Go.RowKit
def wideOf (k : Int) : Int := if k = 1 then 1 else if k = 2 then 2 else if k = 3 then 4 else 0
theorem wideOf_bounds (k : Int) : 0 ≤ wideOf k ∧ wideOf k ≤ 4 := by unfold wideOf; split <;> (try split) <;> (try split) <;> omega
theorem fixupWide'_any (k : Int) (w : World) : Calls Tryz.prog 61 #[.int .i64 k] w fun e w' => e = .returned (.int .i64 (wideOf k)) ∧ Below w.heap.size w w' := by
  by_cases h1 : k < 1
  · have e : wideOf k = 0 := by unfold wideOf; rw [if_neg (by omega), if_neg (by omega), if_neg (by omega)]
    rw [e]; clear e
    go_enter Tryz.func61, Tryz.ntmps61
    go_wp2_with (go_at_call 41; (first | (with_reducible refine (l1In_yes _ _ _ (by omega) (by omega) _).mono ?_) | (with_reducible refine (l1In_low _ _ _ (by omega) _).mono ?_) | (with_reducible refine (l1In_high _ _ _ (by omega) _).mono ?_)); rintro e w' ⟨rfl, rfl⟩)
    go_ret
    exact ⟨rfl, Below.refl _ _⟩
  by_cases h3 : 3 < k
  · have e : wideOf k = 0 := by unfold wideOf; rw [if_neg (by omega), if_neg (by omega), if_neg (by omega)]
    rw [e]; clear e
    go_enter Tryz.func61, Tryz.ntmps61
    go_wp2_with (go_at_call 41; (first | (with_reducible refine (l1In_yes _ _ _ (by omega) (by omega) _).mono ?_) | (with_reducible refine (l1In_low _ _ _ (by omega) _).mono ?_) | (with_reducible refine (l1In_high _ _ _ (by omega) _).mono ?_)); rintro e w' ⟨rfl, rfl⟩)
    go_ret
    exact ⟨rfl, Below.refl _ _⟩
  rcases (show k = 1 ∨ k = 2 ∨ k = 3 by omega) with rfl | rfl | rfl
  · clear h1 h3
    go_enter Tryz.func61, Tryz.ntmps61
    go_wp2_with (go_at_call 41; (first | (with_reducible refine (l1In_yes _ _ _ (by omega) (by omega) _).mono ?_) | (with_reducible refine (l1In_low _ _ _ (by omega) _).mono ?_) | (with_reducible refine (l1In_high _ _ _ (by omega) _).mono ?_)); rintro e w' ⟨rfl, rfl⟩)
    go_ret
    exact ⟨rfl, (Below.refl _ _).alloc (Nat.le_refl _) _⟩
  · clear h1 h3
    go_enter Tryz.func61, Tryz.ntmps61
    go_wp2_with (go_at_call 41; (first | (with_reducible refine (l1In_yes _ _ _ (by omega) (by omega) _).mono ?_) | (with_reducible refine (l1In_low _ _ _ (by omega) _).mono ?_) | (with_reducible refine (l1In_high _ _ _ (by omega) _).mono ?_)); rintro e w' ⟨rfl, rfl⟩)
    go_ret
    exact ⟨rfl, (Below.refl _ _).alloc (Nat.le_refl _) _⟩
  · clear h1 h3
    go_enter Tryz.func61, Tryz.ntmps61
    go_wp2_with (go_at_call 41; (first | (with_reducible refine (l1In_yes _ _ _ (by omega) (by omega) _).mono ?_) | (with_reducible refine (l1In_low _ _ _ (by omega) _).mono ?_) | (with_reducible refine (l1In_high _ _ _ (by omega) _).mono ?_)); rintro e w' ⟨rfl, rfl⟩)
    go_ret
    exact ⟨rfl, (Below.refl _ _).alloc (Nat.le_refl _) _⟩
structure Sx where
  name : ByteArray
  kind : Int
  align : Int
  bytes : List Int
  size : Int
  fixs : List Fx
def Sx.agg (s : Sx) (a1 : Option Addr) (c1 : Nat) (a2 : Option Addr) (c2 : Nat) : Value :=
  .agg #[.string s.name, .int .i64 s.kind, .int .i64 s.align, .slice a1 s.bytes.length c1, .int .i64 s.size, .slice a2 s.fixs.length c2]
def Sx.long (s : Sx) : Int := if s.kind = 3 then s.size else (s.bytes.length : Int)
theorem sectionSize'_any (w : World) (s : Sx) (a1 : Option Addr) (c1 : Nat) (a2 : Option Addr) (c2 : Nat) (hl : s.bytes.length ≤ 9223372036854775807) :
    Calls Tryz.prog 30 #[s.agg a1 c1 a2 c2] w fun e w' => e = .returned (.int .i64 s.long) ∧ Below w.heap.size w w' := by
  obtain ⟨nm, k, al, bs, sz, fs⟩ := s
  unfold Sx.agg Sx.long
  simp only at hl ⊢
  generalize bs.length = nb at hl ⊢
  generalize fs.length = nf
  by_cases hk : k = 3
  · subst hk
    rw [if_pos rfl]
    go_enter Tryz.func30, Tryz.ntmps30
    go_wp2
    go_ret
    exact ⟨rfl, (Below.refl _ _).alloc (Nat.le_refl _) _⟩
  · rw [if_neg hk]
    have hk' : (k == 3) = false := by simpa using hk
    clear hk
    go_enter Tryz.func30, Tryz.ntmps30
    go_wp2
    go_ret
    exact ⟨rfl, (Below.refl _ _).alloc (Nat.le_refl _) _⟩
def fixOk (n many e : Int) (f : Fx) : Bool :=
  decide (wideOf f.kind ≠ 0) && decide (0 ≤ f.to) && decide (f.to < many) && decide (-1000 ≤ f.add ∧ f.add ≤ 1000) && decide (e ≤ f.pl ∧ f.pl ≤ n - wideOf f.kind)
def fixsOk (n many : Int) : Int → List Fx → Bool
  | _, [] => true
  | e, f :: r => fixOk n many e f && fixsOk n many (f.pl + wideOf f.kind) r
def sectOk (s : Sx) (many : Int) : Bool :=
  nameOk s.name.data.toList && decide (1 ≤ s.kind ∧ s.kind ≤ 3) && decide (s.align = 1 ∨ s.align = 2 ∨ s.align = 4 ∨ s.align = 8) && decide (s.bytes.length ≤ 48) && decide (s.fixs.length ≤ 6) && decide (0 ≤ s.size ∧ s.size ≤ 48) &&
  (if s.kind = 3 then decide (s.bytes.length = 0) && decide (s.fixs.length = 0) else fixsOk s.bytes.length many 0 s.fixs && decide (s.size = 0))
set_option maxHeartbeats 2000000 in
theorem sectionValid'_any (w : World) (B : Nat) (s : Sx) (many : Int) (a1 : Option Addr) (c1 : Nat) (a2 : Option Addr) (c2 : Nat) (h2 : Fixs w B a2 s.fixs) (hB : B ≤ w.heap.size) (hname : s.name.size ≤ maxLen) (hl1 : s.bytes.length ≤ 9223372036854775807) (hl2 : s.fixs.length ≤ 9223372036854775807) :
    Calls Tryz.prog 32 #[s.agg a1 c1 a2 c2, .int .i64 many] w fun e w' => e = .returned (.bool (sectOk s many)) ∧ Below w.heap.size w w' := by
  obtain ⟨nm, kind, al, bs, sz, fs⟩ := s
  unfold Sx.agg
  simp only at h2 hname hl1 hl2 ⊢
  have HNV := hidden (fun W => nameValid'_any nm W hname)
  have HAL := hidden (fun W => alignUp'_any 0 al W)
  obtain ⟨nb, hnb⟩ : ∃ n, n = bs.length := ⟨_, rfl⟩
  obtain ⟨nf, hnf⟩ : ∃ n, n = fs.length := ⟨_, rfl⟩
  obtain ⟨ok, hok⟩ : ∃ ok, ok = sectOk ⟨nm, kind, al, bs, sz, fs⟩ many := ⟨_, rfl⟩
  have HOK : Hid (ok = (nameOk nm.data.toList && decide (1 ≤ kind ∧ kind ≤ 3) && decide (al = 1 ∨ al = 2 ∨ al = 4 ∨ al = 8) && decide (nb ≤ 48) && decide (nf ≤ 6) && decide (0 ≤ sz ∧ sz ≤ 48) &&
      (if kind = 3 then decide (nb = 0) && decide (nf = 0) else fixsOk nb many 0 fs && decide (sz = 0)))) := by
    show _ = _; rw [hok, hnb, hnf]; rfl
  rw [← hok, ← hnb, ← hnf]
  rw [← hnb] at hl1
  rw [← hnf] at hl2
  have HNF := hidden hnf
  have H2 := hidden h2
  clear hok hnb hnf h2 hname
  have hup : upTo 0 al = if al = 1 ∨ al = 2 ∨ al = 4 ∨ al = 8 then 0 else -1 := by
    unfold upTo
    rw [if_neg (by omega)]
    split
    · rename_i h; rcases h with rfl | rfl | rfl | rfl <;> rfl
    · rfl
  rw [hup] at HAL
  clear hup
  rcases hn : nameOk nm.data.toList with _ | _
  · rw [hn] at HNV HOK
    have HF : Hid (ok = false) := by show _ = _; rw [HOK.out]; simp
    clear HOK H2
    go_enter Tryz.func32, Tryz.ntmps32
    go_wp2_with (first | (go_at_call 59; refine (HNV.out _).mono ?_; rintro e w' ⟨rfl, rfl⟩))
    go_ret
    exact ⟨ret_bool HF.out.symm, (Below.refl _ _).alloc (Nat.le_refl _) _⟩
  rw [hn] at HNV HOK
  clear hn
  by_cases k1 : kind < 1
  · have HF : Hid (ok = false) := by show _ = _; rw [HOK.out]; simp; omega
    clear HOK H2
    go_enter Tryz.func32, Tryz.ntmps32
    go_wp2_with (first | (go_at_call 59; refine (HNV.out _).mono ?_; rintro e w' ⟨rfl, rfl⟩) | (go_at_call 41; (first | (with_reducible refine (l1In_yes _ _ _ (by omega) (by omega) _).mono ?_) | (with_reducible refine (l1In_low _ _ _ (by omega) _).mono ?_) | (with_reducible refine (l1In_high _ _ _ (by omega) _).mono ?_)); rintro e w' ⟨rfl, rfl⟩))
    go_ret
    exact ⟨ret_bool HF.out.symm, (Below.refl _ _).alloc (Nat.le_refl _) _⟩
  by_cases k3 : 3 < kind
  · have HF : Hid (ok = false) := by show _ = _; rw [HOK.out]; simp; omega
    clear HOK H2
    go_enter Tryz.func32, Tryz.ntmps32
    go_wp2_with (first | (go_at_call 59; refine (HNV.out _).mono ?_; rintro e w' ⟨rfl, rfl⟩) | (go_at_call 41; (first | (with_reducible refine (l1In_yes _ _ _ (by omega) (by omega) _).mono ?_) | (with_reducible refine (l1In_low _ _ _ (by omega) _).mono ?_) | (with_reducible refine (l1In_high _ _ _ (by omega) _).mono ?_)); rintro e w' ⟨rfl, rfl⟩))
    go_ret
    exact ⟨ret_bool HF.out.symm, (Below.refl _ _).alloc (Nat.le_refl _) _⟩
  by_cases ha : al = 1 ∨ al = 2 ∨ al = 4 ∨ al = 8
  case neg =>
    rw [if_neg ha] at HAL
    have HF : Hid (ok = false) := by show _ = _; rw [HOK.out]; simp; omega
    clear HOK H2
    go_enter Tryz.func32, Tryz.ntmps32
    go_wp2_with (first | (go_at_call 59; refine (HNV.out _).mono ?_; rintro e w' ⟨rfl, rfl⟩) | (go_at_call 41; (first | (with_reducible refine (l1In_yes _ _ _ (by omega) (by omega) _).mono ?_) | (with_reducible refine (l1In_low _ _ _ (by omega) _).mono ?_) | (with_reducible refine (l1In_high _ _ _ (by omega) _).mono ?_)); rintro e w' ⟨rfl, rfl⟩) | (go_at_call 60; refine (HAL.out _).mono ?_; rintro e w' ⟨rfl, rfl⟩))
    go_ret
    exact ⟨ret_bool HF.out.symm, (Below.refl _ _).alloc (Nat.le_refl _) _⟩
  rw [if_pos ha] at HAL
  by_cases hb : 48 < nb
  · have hb' : (48 : Int) < (nb : Int) := by omega
    have HF : Hid (ok = false) := by show _ = _; rw [HOK.out]; simp; omega
    clear HOK H2
    go_enter Tryz.func32, Tryz.ntmps32
    go_wp2_with (first | (go_at_call 59; refine (HNV.out _).mono ?_; rintro e w' ⟨rfl, rfl⟩) | (go_at_call 41; (first | (with_reducible refine (l1In_yes _ _ _ (by omega) (by omega) _).mono ?_) | (with_reducible refine (l1In_low _ _ _ (by omega) _).mono ?_) | (with_reducible refine (l1In_high _ _ _ (by omega) _).mono ?_)); rintro e w' ⟨rfl, rfl⟩) | (go_at_call 60; refine (HAL.out _).mono ?_; rintro e w' ⟨rfl, rfl⟩))
    go_ret
    exact ⟨ret_bool HF.out.symm, (Below.refl _ _).alloc (Nat.le_refl _) _⟩
  have hb' : ¬ (48 : Int) < (nb : Int) := by omega
  by_cases hf : 6 < nf
  · have hf' : (6 : Int) < (nf : Int) := by omega
    have HF : Hid (ok = false) := by show _ = _; rw [HOK.out]; simp; omega
    clear HOK H2
    go_enter Tryz.func32, Tryz.ntmps32
    go_wp2_with (first | (go_at_call 59; refine (HNV.out _).mono ?_; rintro e w' ⟨rfl, rfl⟩) | (go_at_call 41; (first | (with_reducible refine (l1In_yes _ _ _ (by omega) (by omega) _).mono ?_) | (with_reducible refine (l1In_low _ _ _ (by omega) _).mono ?_) | (with_reducible refine (l1In_high _ _ _ (by omega) _).mono ?_)); rintro e w' ⟨rfl, rfl⟩) | (go_at_call 60; refine (HAL.out _).mono ?_; rintro e w' ⟨rfl, rfl⟩))
    go_ret
    exact ⟨ret_bool HF.out.symm, (Below.refl _ _).alloc (Nat.le_refl _) _⟩
  have hf' : ¬ (6 : Int) < (nf : Int) := by omega
  by_cases s0 : sz < 0
  · have HF : Hid (ok = false) := by show _ = _; rw [HOK.out]; simp; omega
    clear HOK H2
    go_enter Tryz.func32, Tryz.ntmps32
    go_wp2_with (first | (go_at_call 59; refine (HNV.out _).mono ?_; rintro e w' ⟨rfl, rfl⟩) | (go_at_call 41; (first | (with_reducible refine (l1In_yes _ _ _ (by omega) (by omega) _).mono ?_) | (with_reducible refine (l1In_low _ _ _ (by omega) _).mono ?_) | (with_reducible refine (l1In_high _ _ _ (by omega) _).mono ?_)); rintro e w' ⟨rfl, rfl⟩) | (go_at_call 60; refine (HAL.out _).mono ?_; rintro e w' ⟨rfl, rfl⟩))
    go_ret
    exact ⟨ret_bool HF.out.symm, (Below.refl _ _).alloc (Nat.le_refl _) _⟩
  by_cases s1 : 48 < sz
  · have HF : Hid (ok = false) := by show _ = _; rw [HOK.out]; simp; omega
    clear HOK H2
    go_enter Tryz.func32, Tryz.ntmps32
    go_wp2_with (first | (go_at_call 59; refine (HNV.out _).mono ?_; rintro e w' ⟨rfl, rfl⟩) | (go_at_call 41; (first | (with_reducible refine (l1In_yes _ _ _ (by omega) (by omega) _).mono ?_) | (with_reducible refine (l1In_low _ _ _ (by omega) _).mono ?_) | (with_reducible refine (l1In_high _ _ _ (by omega) _).mono ?_)); rintro e w' ⟨rfl, rfl⟩) | (go_at_call 60; refine (HAL.out _).mono ?_; rintro e w' ⟨rfl, rfl⟩))
    go_ret
    exact ⟨ret_bool HF.out.symm, (Below.refl _ _).alloc (Nat.le_refl _) _⟩
  by_cases hk : kind = 3
  · subst hk
    have HR : Hid (ok = (decide (nb = 0) && decide (nf = 0))) := by
      show _ = _; rw [HOK.out]; simp; omega
    clear HOK H2 k1 k3
    by_cases b0 : nb = 0
    · have b0' : ((nb : Int) == 0) = true := by simp [b0]
      by_cases f0 : nf = 0
      · have f0' : ((nf : Int) == 0) = true := by simp [f0]
        have HF : Hid (ok = true) := by show _ = _; rw [HR.out]; simp [b0, f0]
        clear HR b0 f0
        go_enter Tryz.func32, Tryz.ntmps32
        go_wp2_with (first | (go_at_call 59; refine (HNV.out _).mono ?_; rintro e w' ⟨rfl, rfl⟩) | (go_at_call 41; (first | (with_reducible refine (l1In_yes _ _ _ (by omega) (by omega) _).mono ?_) | (with_reducible refine (l1In_low _ _ _ (by omega) _).mono ?_) | (with_reducible refine (l1In_high _ _ _ (by omega) _).mono ?_)); rintro e w' ⟨rfl, rfl⟩) | (go_at_call 60; refine (HAL.out _).mono ?_; rintro e w' ⟨rfl, rfl⟩))
        go_ret
        exact ⟨ret_bool HF.out.symm, (Below.refl _ _).alloc (Nat.le_refl _) _⟩
      · have f0' : ((nf : Int) == 0) = false := by simp; omega
        have HF : Hid (ok = false) := by show _ = _; rw [HR.out]; simp [b0, f0]
        clear HR b0 f0
        go_enter Tryz.func32, Tryz.ntmps32
        go_wp2_with (first | (go_at_call 59; refine (HNV.out _).mono ?_; rintro e w' ⟨rfl, rfl⟩) | (go_at_call 41; (first | (with_reducible refine (l1In_yes _ _ _ (by omega) (by omega) _).mono ?_) | (with_reducible refine (l1In_low _ _ _ (by omega) _).mono ?_) | (with_reducible refine (l1In_high _ _ _ (by omega) _).mono ?_)); rintro e w' ⟨rfl, rfl⟩) | (go_at_call 60; refine (HAL.out _).mono ?_; rintro e w' ⟨rfl, rfl⟩))
        go_ret
        exact ⟨ret_bool HF.out.symm, (Below.refl _ _).alloc (Nat.le_refl _) _⟩
    · have b0' : ((nb : Int) == 0) = false := by simp; omega
      have HF : Hid (ok = false) := by show _ = _; rw [HR.out]; simp [b0]
      clear HR b0
      go_enter Tryz.func32, Tryz.ntmps32
      go_wp2_with (first | (go_at_call 59; refine (HNV.out _).mono ?_; rintro e w' ⟨rfl, rfl⟩) | (go_at_call 41; (first | (with_reducible refine (l1In_yes _ _ _ (by omega) (by omega) _).mono ?_) | (with_reducible refine (l1In_low _ _ _ (by omega) _).mono ?_) | (with_reducible refine (l1In_high _ _ _ (by omega) _).mono ?_)); rintro e w' ⟨rfl, rfl⟩) | (go_at_call 60; refine (HAL.out _).mono ?_; rintro e w' ⟨rfl, rfl⟩))
      go_ret
      exact ⟨ret_bool HF.out.symm, (Below.refl _ _).alloc (Nat.le_refl _) _⟩
  have hk' : (kind == 3) = false := by simpa using hk
  have HR : Hid (ok = (fixsOk nb many 0 fs && decide (sz = 0))) := by
    show _ = _; rw [HOK.out, if_neg hk]; simp; omega
  clear HOK hk
  go_enter Tryz.func32, Tryz.ntmps32
  go_wp2_with (first | (go_at_call 59; refine (HNV.out _).mono ?_; rintro e w' ⟨rfl, rfl⟩) | (go_at_call 41; (first | (with_reducible refine (l1In_yes _ _ _ (by omega) (by omega) _).mono ?_) | (with_reducible refine (l1In_low _ _ _ (by omega) _).mono ?_) | (with_reducible refine (l1In_high _ _ _ (by omega) _).mono ?_)); rintro e w' ⟨rfl, rfl⟩) | (go_at_call 60; refine (HAL.out _).mono ?_; rintro e w' ⟨rfl, rfl⟩))
  go_loopw [5, 6] (fun en i wr => ∃ (k : Nat) (e : Int), i = .int .i64 k ∧ en = .int .i64 e ∧ k ≤ nf ∧ 0 ≤ e ∧ e ≤ 48 ∧ Hid (fixsOk nb many 0 fs = fixsOk nb many e (fs.drop k)) ∧ Below (w.heap.size + 1) (w.alloc (.cells #[.string nm, .int .i64 kind, .int .i64 al, .slice a1 nb c1, .int .i64 sz, .slice a2 nf c2] 52)) wr) (fun _ i _ => nf - (intOf i).toNat)
  case atStart => exact ⟨0, 0, rfl, rfl, Nat.zero_le _, by omega, by omega, hidden (by simp), Below.refl _ _⟩
  case round =>
    obtain ⟨k, e, rfl, rfl, hk, he0, he1, hfo, hbw⟩ := hrel
    have hbx : Below w.heap.size w wr := ((Below.refl _ _).alloc (Nat.le_refl _) _).trans (hbw.mono (Nat.le_succ _))
    have HX : Hid (∀ (W : World), Below wr.heap.size wr W → ∀ j, W.cell? ⟨w.heap.size, j, none⟩ = (#[.string nm, .int .i64 kind, .int .i64 al, .slice a1 nb c1, .int .i64 sz, .slice a2 nf c2] : Array Value)[j]?) := fun W hW j => by
      have s0 := hbw.size
      have s1 : (w.alloc (.cells #[.string nm, .int .i64 kind, .int .i64 al, .slice a1 nb c1, .int .i64 sz, .slice a2 nf c2] 52)).heap.size = w.heap.size + 1 := by simp
      rw [hW.cell (by show w.heap.size < _; omega), hbw.cell (by show w.heap.size < _; omega)]
      exact (Has.new w 52 _).cell j
    have q3 : wr.cell? ⟨w.heap.size, 3, none⟩ = some (.slice a1 nb c1) := HX.out wr (Below.refl _ _) 3
    have q4 : wr.cell? ⟨w.heap.size, 4, none⟩ = some (.int .i64 sz) := HX.out wr (Below.refl _ _) 4
    have q5 : wr.cell? ⟨w.heap.size, 5, none⟩ = some (.slice a2 nf c2) := HX.out wr (Below.refl _ _) 5
    by_cases hlt : k < nf
    · have hi : (k : Int) < (nf : Int) := by omega
      have hkl : k < fs.length := by rw [← HNF.out]; exact hlt
      obtain ⟨b2, o2, rfl, _, p0, p1, p2, p3⟩ := (H2.out.below (hbx.mono hB)).at_ hkl
      obtain ⟨g, hfk⟩ : ∃ g, fs[k] = g := ⟨_, rfl⟩
      rw [hfk] at p0 p1 p2 p3
      have HD : Hid (fs.drop k = g :: fs.drop (k + 1)) := by show _ = _; rw [List.drop_eq_getElem_cons hkl, hfk]
      obtain ⟨pl, gk, to, ad⟩ := g
      simp only at p0 p1 p2 p3
      have HFW := hidden (fun W => fixupWide'_any gk W)
      have HG : Hid (fixsOk nb many 0 fs = (fixOk nb many e ⟨pl, gk, to, ad⟩ && fixsOk nb many (pl + wideOf gk) (fs.drop (k + 1)))) := by
        show _ = _; rw [hfo.out, HD.out]; rfl
      obtain ⟨w0, w4⟩ := wideOf_bounds gk
      obtain ⟨wd, hwd⟩ : ∃ x, wideOf gk = x := ⟨_, rfl⟩
      rw [hwd] at HFW HG w0 w4
      have HGO : Hid (fixOk nb many e ⟨pl, gk, to, ad⟩ = (decide (wd ≠ 0) && decide (0 ≤ to) && decide (to < many) && decide (-1000 ≤ ad ∧ ad ≤ 1000) && decide (e ≤ pl ∧ pl ≤ nb - wd))) := by
        show _ = _; unfold fixOk; simp only [hwd]
      clear hfk hkl hfo HD hwd
      go_wp2_with fail
      refine (HFW.out _).mono ?_
      clear HFW
      rintro e3 w3 ⟨rfl, hb3⟩
      have s1 : (wr.alloc (.cells #[.int .i64 pl, .int .i64 gk, .int .i64 to, .int .i64 ad] 55)).heap.size = wr.heap.size + 1 := by simp
      have hb4 : Below wr.heap.size wr w3 := ((Below.refl _ _).alloc (Nat.le_refl _) _).trans (hb3.mono (by rw [s1]; omega))
      have RX : ∀ j, w3.cell? ⟨wr.heap.size, j, none⟩ = (#[.int .i64 pl, .int .i64 gk, .int .i64 to, .int .i64 ad] : Array Value)[j]? := fun j => by
        rw [hb3.cell (by show wr.heap.size < _; rw [s1]; omega)]
        exact (Has.new wr 55 _).cell j
      have r0 : w3.cell? ⟨wr.heap.size, 0, none⟩ = some (.int .i64 pl) := RX 0
      have r2 : w3.cell? ⟨wr.heap.size, 2, none⟩ = some (.int .i64 to) := RX 2
      have r3 : w3.cell? ⟨wr.heap.size, 3, none⟩ = some (.int .i64 ad) := RX 3
      have t3 : w3.cell? ⟨w.heap.size, 3, none⟩ = some (.slice a1 nb c1) := HX.out w3 hb4 3
      have hbx4 : Below w.heap.size w w3 := hbx.trans (hb4.mono hbx.size)
      have hbw4 := hbw.trans (hb4.mono (by have := hbw.size; simpa using this))
      clear RX s1 hb3 hb4 q3 q4 q5 p0 p1 p2 p3 hbx hbw HX
      by_cases z0 : wd = 0
      · have z0' : (wd == 0) = true := by simp [z0]
        have HF : Hid (ok = false) := by show _ = _; rw [HR.out, HG.out, HGO.out]; simp [z0]
        clear HG HGO HR z0
        go_wp2_with fail
        go_ret
        exact ⟨ret_bool HF.out.symm, hbx4⟩
      have z0' : (wd == 0) = false := by simpa using z0
      by_cases z1 : to < 0
      · have HF : Hid (ok = false) := by show _ = _; rw [HR.out, HG.out, HGO.out]; simp; omega
        clear HG HGO HR z0
        go_wp2_with fail
        go_ret
        exact ⟨ret_bool HF.out.symm, hbx4⟩
      by_cases z2 : many ≤ to
      · have HF : Hid (ok = false) := by show _ = _; rw [HR.out, HG.out, HGO.out]; simp; omega
        clear HG HGO HR z0
        go_wp2_with fail
        go_ret
        exact ⟨ret_bool HF.out.symm, hbx4⟩
      by_cases z3 : ad < -1000
      · have HF : Hid (ok = false) := by show _ = _; rw [HR.out, HG.out, HGO.out]; simp; omega
        clear HG HGO HR z0
        go_wp2_with (go_at_call 41; (first | (with_reducible refine (l1In_yes _ _ _ (by omega) (by omega) _).mono ?_) | (with_reducible refine (l1In_low _ _ _ (by omega) _).mono ?_) | (with_reducible refine (l1In_high _ _ _ (by omega) _).mono ?_)); rintro e w' ⟨rfl, rfl⟩)
        go_ret
        exact ⟨ret_bool HF.out.symm, hbx4⟩
      by_cases z4 : 1000 < ad
      · have HF : Hid (ok = false) := by show _ = _; rw [HR.out, HG.out, HGO.out]; simp; omega
        clear HG HGO HR z0
        go_wp2_with (go_at_call 41; (first | (with_reducible refine (l1In_yes _ _ _ (by omega) (by omega) _).mono ?_) | (with_reducible refine (l1In_low _ _ _ (by omega) _).mono ?_) | (with_reducible refine (l1In_high _ _ _ (by omega) _).mono ?_)); rintro e w' ⟨rfl, rfl⟩)
        go_ret
        exact ⟨ret_bool HF.out.symm, hbx4⟩
      by_cases z5 : pl < e
      · have HF : Hid (ok = false) := by show _ = _; rw [HR.out, HG.out, HGO.out]; simp; omega
        clear HG HGO HR z0
        go_wp2_with (go_at_call 41; (first | (with_reducible refine (l1In_yes _ _ _ (by omega) (by omega) _).mono ?_) | (with_reducible refine (l1In_low _ _ _ (by omega) _).mono ?_) | (with_reducible refine (l1In_high _ _ _ (by omega) _).mono ?_)); rintro e w' ⟨rfl, rfl⟩)
        go_ret
        exact ⟨ret_bool HF.out.symm, hbx4⟩
      by_cases z6 : (nb : Int) - wd < pl
      · have HF : Hid (ok = false) := by show _ = _; rw [HR.out, HG.out, HGO.out]; simp; omega
        clear HG HGO HR z0
        go_wp2_with (go_at_call 41; (first | (with_reducible refine (l1In_yes _ _ _ (by omega) (by omega) _).mono ?_) | (with_reducible refine (l1In_low _ _ _ (by omega) _).mono ?_) | (with_reducible refine (l1In_high _ _ _ (by omega) _).mono ?_)); rintro e w' ⟨rfl, rfl⟩)
        go_ret
        exact ⟨ret_bool HF.out.symm, hbx4⟩
      have HN : Hid (fixsOk nb many 0 fs = fixsOk nb many (pl + wd) (fs.drop (k + 1))) := by
        show _ = _
        have : fixOk nb many e ⟨pl, gk, to, ad⟩ = true := by rw [HGO.out]; simp; omega
        rw [HG.out, this, Bool.true_and]
      clear HG HGO z0
      go_wp2_with (go_at_call 41; (first | (with_reducible refine (l1In_yes _ _ _ (by omega) (by omega) _).mono ?_) | (with_reducible refine (l1In_low _ _ _ (by omega) _).mono ?_) | (with_reducible refine (l1In_high _ _ _ (by omega) _).mono ?_)); rintro e w' ⟨rfl, rfl⟩)
      go_roundw
      case rel => exact ⟨k + 1, pl + wd, by go_num, by go_num, by omega, by omega, by omega, HN, hbw4⟩
      case measure => simp [intOf]; omega
    · have hi : ¬ (k : Int) < (nf : Int) := by omega
      have HF : Hid (ok = decide (sz = 0)) := by
        show _ = _
        have hd : fs.drop k = [] := List.drop_eq_nil_of_le (by rw [← HNF.out]; omega)
        rw [HR.out, hfo.out, hd]; simp [fixsOk]
      clear HR hfo
      by_cases z : sz = 0
      · have z' : (sz == 0) = true := by simp [z]
        have HT : Hid (ok = true) := by show _ = _; rw [HF.out]; simp [z]
        clear HF z HX q3
        go_wp2_with fail
        go_ret
        exact ⟨ret_bool HT.out.symm, hbx⟩
      · have z' : (sz == 0) = false := by simpa using z
        have HT : Hid (ok = false) := by show _ = _; rw [HF.out]; simp [z]
        clear HF z HX q3
        go_wp2_with fail
        go_ret
        exact ⟨ret_bool HT.out.symm, hbx⟩
end Go.Proofs.YtpfombelhajmlaaGreatDoor
namespace Go.Proofs.YtpfombelhajmlaaGreatDoor
open Go.RowKit
end Go.Proofs.YtpfombelhajmlaaGreatDoor
namespace Go.Proofs.YtpfombelhajmlaaGreatDoor
open Go.RowKit
set_option maxHeartbeats 1000000 in
theorem eqSection_yes (w : World) (B1 B2 : Nat) (s : Sx) (a1 : Option Addr) (c1 : Nat) (a2 : Option Addr) (c2 : Nat) (b1 : Option Addr) (d1 : Nat) (b2 : Option Addr) (d2 : Nat)
    (h1 : Ints w .u8 B1 a1 s.bytes) (h2 : Fixs w B1 a2 s.fixs) (k1 : Ints w .u8 B2 b1 s.bytes) (k2 : Fixs w B2 b2 s.fixs) (hB1 : B1 ≤ w.heap.size) (hB2 : B2 ≤ w.heap.size) (hl1 : s.bytes.length ≤ 9223372036854775807) (hl2 : s.fixs.length ≤ 9223372036854775807) :
    Calls Tryz.prog 68 #[s.agg a1 c1 a2 c2, s.agg b1 d1 b2 d2] w fun e w' => e = .returned (.bool true) ∧ Below w.heap.size w w' := by
  obtain ⟨nm, kind, al, bs, sz, fs⟩ := s
  unfold Sx.agg
  simp only at h1 h2 k1 k2 hl1 hl2 ⊢
  have HE1 := hidden (fun (W : World) (hW : Below w.heap.size w W) => eqByteS_yes W B1 B2 a1 b1 c1 d1 bs (h1.below (hW.mono hB1)) (k1.below (hW.mono hB2)) hl1)
  have HE2 := hidden (fun (W : World) (hW : Below w.heap.size w W) => eqFixupS_yes W B1 B2 a2 b2 c2 d2 fs.length fs rfl (h2.below (hW.mono hB1)) (k2.below (hW.mono hB2)) (Nat.le_trans hB1 hW.size) (Nat.le_trans hB2 hW.size) hl2)
  obtain ⟨nb, hnb⟩ : ∃ n, n = bs.length := ⟨_, rfl⟩
  obtain ⟨nf, hnf⟩ : ∃ n, n = fs.length := ⟨_, rfl⟩
  rw [← hnb] at HE1 ⊢
  rw [← hnf] at HE2 ⊢
  have hss : (nm.toList == nm.toList) = true := beq_self_eq_true _
  clear h1 h2 k1 k2 hnb hnf hl1 hl2
  go_enter Tryz.func68, Tryz.ntmps68
  go_wp2_with fail
  refine (HE1.out _ (((Below.refl _ _).alloc (Nat.le_refl _) _).alloc (by simp) _)).mono ?_
  clear HE1
  rintro e w1 ⟨rfl, m, rfl⟩
  have hb1 : Below w.heap.size w _ := below_drewN (((Below.refl w.heap.size w).alloc (Nat.le_refl _) (.cells #[.string nm, .int .i64 kind, .int .i64 al, .slice a1 nb c1, .int .i64 sz, .slice a2 nf c2] 52)).alloc (by simp) (.cells #[.string nm, .int .i64 kind, .int .i64 al, .slice b1 nb d1, .int .i64 sz, .slice b2 nf d2] 52)) m
  go_wp2_with fail
  refine (HE2.out _ hb1).mono ?_
  clear HE2
  rintro e w2 ⟨rfl, hb2⟩
  have hb3 : Below w.heap.size w w2 := hb1.trans (hb2.mono hb1.size)
  clear hb1 hb2
  go_wp2_with fail
  go_ret
  exact ⟨rfl, hb3⟩
end Go.Proofs.YtpfombelhajmlaaGreatDoor
namespace Go.Proofs.YtpfombelhajmlaaGreatDoor
open Go.RowKit
structure Sp where
  s : Sx
  a1 : Option Addr
  c1 : Nat
  a2 : Option Addr
  c2 : Nat
def Sp.agg (y : Sp) : Value := y.s.agg y.a1 y.c1 y.a2 y.c2
def SecAt (w : World) (b o : Nat) (y : Sp) : Prop :=
  w.cell? ⟨b, o, none⟩ = some (.string y.s.name) ∧ w.cell? ⟨b, o + 1, none⟩ = some (.int .i64 y.s.kind) ∧ w.cell? ⟨b, o + 2, none⟩ = some (.int .i64 y.s.align) ∧
  w.cell? ⟨b, o + 3, none⟩ = some (.slice y.a1 y.s.bytes.length y.c1) ∧ w.cell? ⟨b, o + 4, none⟩ = some (.int .i64 y.s.size) ∧ w.cell? ⟨b, o + 5, none⟩ = some (.slice y.a2 y.s.fixs.length y.c2)
structure Sects (w : World) (B : Nat) (a : Option Addr) (l : List Sp) : Prop where
  row : 0 < l.length → ∃ b off, a = some ⟨b, off, none⟩ ∧ b < B ∧ ∀ i y, l[i]? = some y → SecAt w b (off + i * 6) y
  bytes : ∀ y ∈ l, Ints w .u8 B y.a1 y.s.bytes
  fixs : ∀ y ∈ l, Fixs w B y.a2 y.s.fixs
section
variable {w w' : World} {B B' : Nat} {a : Option Addr} {l : List Sp}
theorem SecAt.keep {b o : Nat} {y : Sp} (h : SecAt w b o y) (hk : ∀ i, w'.cell? ⟨b, i, none⟩ = w.cell? ⟨b, i, none⟩) : SecAt w' b o y :=
  ⟨(hk _).trans h.1, (hk _).trans h.2.1, (hk _).trans h.2.2.1, (hk _).trans h.2.2.2.1, (hk _).trans h.2.2.2.2.1, (hk _).trans h.2.2.2.2.2⟩
theorem Sects.keep (h : Sects w B a l) (hk : ∀ p : Addr, p.block < B → w'.cell? p = w.cell? p) : Sects w' B a l :=
  ⟨fun hn => by
    obtain ⟨b, off, ha, hb, hc⟩ := h.row hn
    exact ⟨b, off, ha, hb, fun i y hi => (hc i y hi).keep fun _ => hk _ hb⟩, fun y hy => (h.bytes y hy).keep hk, fun y hy => (h.fixs y hy).keep hk⟩
theorem Sects.more (h : Sects w B a l) (hB : B ≤ B') : Sects w B' a l :=
  ⟨fun hn => by
    obtain ⟨b, off, ha, hb, hc⟩ := h.row hn
    exact ⟨b, off, ha, by omega, hc⟩, fun y hy => (h.bytes y hy).more hB, fun y hy => (h.fixs y hy).more hB⟩
theorem Sects.below (h : Sects w B a l) (hb : Below B w w') : Sects w' B a l := h.keep fun _ hp => hb.cell hp
theorem Sects.drewN (h : Sects w B a l) (n : Nat) : Sects (w.drewN n) B a l := ⟨h.row, h.bytes, h.fixs⟩
theorem Sects.alloc (h : Sects w B a l) (hB : B ≤ w.heap.size) (o : Obj) : Sects (w.alloc o) B a l := h.keep fun p hp => World.cell?_alloc_lt w o p (by omega)
theorem Sects.nil : Sects w B a [] := ⟨fun h => by simp at h, by simp, by simp⟩
theorem Sects.at_ (h : Sects w B a l) {i : Nat} (hi : i < l.length) : ∃ b off, a = some ⟨b, off, none⟩ ∧ b < B ∧ SecAt w b (off + i * 6) l[i] := by
  obtain ⟨b, off, ha, hb, hc⟩ := h.row (by omega)
  exact ⟨b, off, ha, hb, hc i _ (List.getElem?_eq_getElem hi)⟩
end
def Sx.short (s : Sx) : Prop := s.name.size ≤ 1048576 ∧ s.bytes.length ≤ 1048576 ∧ s.fixs.length ≤ 1048576
def Sx.lens (s : Sx) : Prop := s.name.size ≤ maxLen ∧ s.bytes.length ≤ 9223372036854775807 ∧ s.fixs.length ≤ 9223372036854775807
end Go.Proofs.YtpfombelhajmlaaGreatDoor
namespace Go.Proofs.YtpfombelhajmlaaGreatDoor
open Go.RowKit
def FilledX (cs : Array Value) (n : Nat) (l : List Sp) : Prop := cs.size = n * 6 ∧ ∀ i y, l[i]? = some y → cs[i * 6]? = some (.string y.s.name) ∧ cs[i * 6 + 1]? = some (.int .i64 y.s.kind) ∧ cs[i * 6 + 2]? = some (.int .i64 y.s.align) ∧ cs[i * 6 + 3]? = some (.slice y.a1 y.s.bytes.length y.c1) ∧ cs[i * 6 + 4]? = some (.int .i64 y.s.size) ∧ cs[i * 6 + 5]? = some (.slice y.a2 y.s.fixs.length y.c2)
def putX (cs : Array Value) (k : Nat) (y : Sp) : Array Value := ((((((cs.setIfInBounds (k * 6) (.string y.s.name)).setIfInBounds (k * 6 + 1) (.int .i64 y.s.kind)).setIfInBounds (k * 6 + 2) (.int .i64 y.s.align)).setIfInBounds (k * 6 + 3) (.slice y.a1 y.s.bytes.length y.c1)).setIfInBounds (k * 6 + 4) (.int .i64 y.s.size)).setIfInBounds (k * 6 + 5) (.slice y.a2 y.s.fixs.length y.c2))
theorem FilledX.next {cs : Array Value} {n k : Nat} {l : List Sp} (h : FilledX cs n l) (hl : l.length = k) (hk : k < n) (y : Sp) : FilledX (putX cs k y) n (l ++ [y]) := by
  have hs := h.1
  refine ⟨by simp [putX, hs], fun i z hz => ?_⟩
  unfold putX
  simp only [Array.getElem?_setIfInBounds, Array.size_setIfInBounds, hs]
  by_cases e : i = k
  · subst e
    rw [List.getElem?_append_right (by omega), hl, Nat.sub_self] at hz
    simp at hz
    subst hz
    refine ⟨?_, ?_, ?_, ?_, ?_, ?_⟩ <;> simp <;> omega
  · have hi : i < k := by
      have := (List.getElem?_eq_some_iff.1 hz).1
      rw [List.length_append] at this
      simp at this
      omega
    rw [List.getElem?_append_left (by omega)] at hz
    obtain ⟨c0, c1, c2, c3, c4, c5⟩ := h.2 i z hz
    refine ⟨?_, ?_, ?_, ?_, ?_, ?_⟩
    · rw [if_neg (by omega), if_neg (by omega), if_neg (by omega), if_neg (by omega), if_neg (by omega), if_neg (by omega)]; exact c0
    · rw [if_neg (by omega), if_neg (by omega), if_neg (by omega), if_neg (by omega), if_neg (by omega), if_neg (by omega)]; exact c1
    · rw [if_neg (by omega), if_neg (by omega), if_neg (by omega), if_neg (by omega), if_neg (by omega), if_neg (by omega)]; exact c2
    · rw [if_neg (by omega), if_neg (by omega), if_neg (by omega), if_neg (by omega), if_neg (by omega), if_neg (by omega)]; exact c3
    · rw [if_neg (by omega), if_neg (by omega), if_neg (by omega), if_neg (by omega), if_neg (by omega), if_neg (by omega)]; exact c4
    · rw [if_neg (by omega), if_neg (by omega), if_neg (by omega), if_neg (by omega), if_neg (by omega), if_neg (by omega)]; exact c5
def Far (g : Nat) (w : World) (y : Sp) : Prop :=
  ∃ b1 b2, y.a1 = some ⟨b1, 0, none⟩ ∧ y.a2 = some ⟨b2, 0, none⟩ ∧ g < b1 ∧ g < b2 ∧ Ints w .u8 w.heap.size y.a1 y.s.bytes ∧ Fixs w w.heap.size y.a2 y.s.fixs ∧ (∃ cb, Has w b1 5 cb ∧ cb.size = y.s.bytes.length) ∧ (∃ cf, Has w b2 55 cf ∧ cf.size = y.s.fixs.length * 4)
theorem Far.below {g : Nat} {w w' : World} {y : Sp} (h : Far g w y) (hb : Below w.heap.size w w') : Far g w' y := by
  obtain ⟨b1, b2, h1, h2, h3, h4, h5, h6, ⟨cb, k1, k2⟩, ⟨cf, k3, k4⟩⟩ := h
  exact ⟨b1, b2, h1, h2, h3, h4, (h5.below hb).more hb.size, (h6.below hb).more hb.size, ⟨cb, k1.below hb k1.lt, k2⟩, ⟨cf, k3.below hb k3.lt, k4⟩⟩
theorem Ints.put' {w : World} {k : IntKind} {B b g : Nat} {l : List Int} (h : Ints w k B (some ⟨b, 0, none⟩) l) (hp : b ≠ g) (j : Nat) (u : Value) : Ints (w.setCell ⟨g, j, none⟩ u) k B (some ⟨b, 0, none⟩) l :=
  ⟨h.1, fun hn => by
    obtain ⟨b', off, ha, hb, hc⟩ := h.2 hn
    injection ha with ha
    injection ha with e1 e2
    subst e1; subst e2
    exact ⟨b, 0, rfl, hb, fun i hi => (World.cell?_of_block (Below.heap_setCell w ⟨g, j, none⟩ u b hp)).trans (hc i hi)⟩⟩
theorem Far.put {g : Nat} {w : World} {y : Sp} (h : Far g w y) (j : Nat) (u : Value) : Far g (w.setCell ⟨g, j, none⟩ u) y := by
  obtain ⟨b1, b2, h1, h2, h3, h4, h5, h6, ⟨cb, k1, k2⟩, ⟨cf, k3, k4⟩⟩ := h
  have hs : (w.setCell ⟨g, j, none⟩ u).heap.size = w.heap.size := by simp
  rw [h1] at h5
  rw [h2] at h6
  refine ⟨b1, b2, h1, h2, h3, h4, ?_, ?_, ⟨cb, k1.away (p := ⟨g, j, none⟩) (by show b1 ≠ g; omega) u, k2⟩, ⟨cf, k3.away (p := ⟨g, j, none⟩) (by show b2 ≠ g; omega) u, k4⟩⟩
  · rw [h1, hs]; exact h5.put' (by omega) j u
  · rw [h2, hs]; exact h6.set (p := ⟨g, j, none⟩) (by show b2 ≠ g; omega) u
theorem FilledX.sects {cs : Array Value} {n g : Nat} {w : World} {l : List Sp} (h : FilledX cs n l) (hh : Has w g 52 cs) (hf : ∀ y ∈ l, Far g w y) : Sects w w.heap.size (some ⟨g, 0, none⟩) l :=
  ⟨fun _ => ⟨g, 0, rfl, hh.lt, fun i y hi => by
    obtain ⟨c0, c1, c2, c3, c4, c5⟩ := h.2 i y hi
    rw [Nat.zero_add]
    exact ⟨(hh.cell _).trans c0, (hh.cell _).trans c1, (hh.cell _).trans c2, (hh.cell _).trans c3, (hh.cell _).trans c4, (hh.cell _).trans c5⟩⟩,
   fun y hy => (hf y hy).elim fun _ ⟨_, _, _, _, _, h5, _⟩ => h5, fun y hy => (hf y hy).elim fun _ ⟨_, _, _, _, _, _, h6, _⟩ => h6⟩
theorem Tryz.info_section : (Tryz.prog.info? 52).map (fun i => (i.zero, i.size, i.bytes)) = some (some (.agg #[.string ⟨#[]⟩, .int .i64 0, .int .i64 0, .slice none 0 0, .int .i64 0, .slice none 0 0]), 6, 88) := by kernel_rfl
theorem Sects.put {w : World} {g : Nat} {l : List Sp} (h : Sects w w.heap.size (some ⟨g, 0, none⟩) l) (hf : ∀ y ∈ l, Far g w y) {p : Nat} (hp : p < g) (j : Nat) (u : Value) :
    Sects (w.setCell ⟨p, j, none⟩ u) (w.setCell ⟨p, j, none⟩ u).heap.size (some ⟨g, 0, none⟩) l := by
  have hs : (w.setCell ⟨p, j, none⟩ u).heap.size = w.heap.size := by simp
  have far : ∀ y ∈ l, Ints (w.setCell ⟨p, j, none⟩ u) .u8 (w.setCell ⟨p, j, none⟩ u).heap.size y.a1 y.s.bytes ∧ Fixs (w.setCell ⟨p, j, none⟩ u) (w.setCell ⟨p, j, none⟩ u).heap.size y.a2 y.s.fixs := fun y hy => by
    obtain ⟨b1, b2, h1, h2, h3, h4, h5, h6, ⟨cb, k1, k2⟩, ⟨cf, k3, k4⟩⟩ := hf y hy
    rw [h1] at h5
    rw [h2] at h6
    rw [h1, h2, hs]
    exact ⟨h5.put' (by omega) j u, h6.set (p := ⟨p, j, none⟩) (by show b2 ≠ p; omega) u⟩
  refine ⟨fun hn => ?_, fun y hy => (far y hy).1, fun y hy => (far y hy).2⟩
  obtain ⟨b, off, ha, hb, hc⟩ := h.row hn
  injection ha with ha
  injection ha with e1 e2
  subst e1; subst e2
  exact ⟨g, 0, rfl, by rw [hs]; exact hb, fun i y hi => (hc i y hi).keep fun _ => World.cell?_of_block (Below.heap_setCell w ⟨p, j, none⟩ u g (by show g ≠ p; omega))⟩
end Go.Proofs.YtpfombelhajmlaaGreatDoor
namespace Go.Proofs.YtpfombelhajmlaaGreatDoor
open Go.RowKit
set_option maxRecDepth 100000 in
set_option maxHeartbeats 2000000 in
theorem eqSectionS_yes (w : World) (B1 B2 : Nat) (a1 a2 : Option Addr) (c1 c2 n : Nat) (l1 l2 : List Sp) (hm : l1.map Sp.s = l2.map Sp.s) (hn : n = l1.length) (h1 : Sects w B1 a1 l1) (h2 : Sects w B2 a2 l2) (hB1 : B1 ≤ w.heap.size) (hB2 : B2 ≤ w.heap.size) (hlen : n ≤ 9223372036854775807) (hl : ∀ y ∈ l1, y.s.lens) :
    Calls Tryz.prog 44 #[.slice a1 n c1, .slice a2 n c2] w fun e w' => e = .returned (.bool true) ∧ Below w.heap.size w w' := by
  have HM := hidden hm
  have HN := hidden hn
  have H1 := hidden h1
  have H2 := hidden h2
  have HL := hidden hl
  have hn2' : n = l2.length := by rw [hn, ← List.length_map (f := Sp.s), hm, List.length_map]
  have HN2 := hidden hn2'
  clear hm hn h1 h2 hl hn2'
  go_enter Tryz.func44, Tryz.ntmps44
  go_wp2
  go_loopw [5] (fun i wr => ∃ k : Nat, i = .int .i64 k ∧ k ≤ n ∧ Below w.heap.size w wr) (fun i _ => n - (intOf i).toNat)
  case atStart => exact ⟨0, rfl, by omega, Below.refl _ _⟩
  case round =>
    obtain ⟨k, rfl, hk, hb⟩ := hrel
    by_cases hlt : k < n
    · have hi : (k : Int) < (n : Int) := by omega
      have hkl1 : k < l1.length := by rw [← HN.out]; exact hlt
      have hkl2 : k < l2.length := by rw [← HN2.out]; exact hlt
      obtain ⟨b1, o1, rfl, _, p0, p1, p2, p3, p4, p5⟩ := (H1.out.below (hb.mono hB1)).at_ hkl1
      obtain ⟨b2, o2, rfl, _, q0, q1, q2, q3, q4, q5⟩ := (H2.out.below (hb.mono hB2)).at_ hkl2
      obtain ⟨y, hy⟩ : ∃ y, l1[k] = y := ⟨_, rfl⟩
      obtain ⟨z, hz⟩ : ∃ z, l2[k] = z := ⟨_, rfl⟩
      rw [hy] at p0 p1 p2 p3 p4 p5
      rw [hz] at q0 q1 q2 q3 q4 q5
      have hm1 : y ∈ l1 := by rw [← hy]; exact List.getElem_mem hkl1
      have hm2 : z ∈ l2 := by rw [← hz]; exact List.getElem_mem hkl2
      have hyz : z.s = y.s := by
        have e : (l1.map Sp.s)[k]? = (l2.map Sp.s)[k]? := by rw [HM.out]
        rw [List.getElem?_map, List.getElem?_map, List.getElem?_eq_getElem hkl1, List.getElem?_eq_getElem hkl2, hy, hz] at e
        simpa using e.symm
      rw [hyz] at q0 q1 q2 q3 q4 q5
      have k3 := H2.out.bytes z hm2
      have k4 := H2.out.fixs z hm2
      rw [hyz] at k3 k4
      have hyl := HL.out y hm1
      have HC := hidden (eqSection_yes wr.drew B1 B2 y.s y.a1 y.c1 y.a2 y.c2 z.a1 z.c1 z.a2 z.c2 (((H1.out.bytes y hm1).below (hb.mono hB1)).drewN 1) (((H1.out.fixs y hm1).below (hb.mono hB1)).drewN 1) ((k3.below (hb.mono hB2)).drewN 1) ((k4.below (hb.mono hB2)).drewN 1) (Nat.le_trans hB1 hb.size) (Nat.le_trans hB2 hb.size) hyl.2.1 hyl.2.2)
      unfold Sx.agg at HC
      clear hy hz hkl1 hkl2 hm1 hm2 hyz k3 k4 hyl
      go_wp2
      go_still_tail 8, (by kernel_rfl)
      change wpList _ _ _ _ _ wr.drew
      go_wp2_with (go_at_call 68; refine HC.out.mono ?_; rintro e w2 ⟨rfl, hb2⟩)
      have hb3 : Below w.heap.size w w2 := hb.drew.trans (hb2.mono hb.size)
      go_roundw
      case rel => exact ⟨k + 1, by go_num, by omega, hb3⟩
      case measure => simp [intOf]; omega
    · have hi : ¬ (k : Int) < (n : Int) := by omega
      go_wp2
      go_ret
      exact ⟨rfl, hb⟩
end Go.Proofs.YtpfombelhajmlaaGreatDoor

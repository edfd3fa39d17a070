/-
  Fixups and sections in memory. Symbols in memory. Sections: plain words, and the model's functions of chapter 3. The laws' own functions on sections: their sizes, copies, comparisons. laws.eqSection: equal sections are found equal. Sections in a list in memory. Sections in a list: toSectionS. Sections in a list: eqSectionS.
-/
import Derived.WalkSpells
import Derived.WalkLawsBesides
import Derived.Handy
import Derived.StillTailTactics
import Derived.BigQuiet
import Derived.Deep.QuietTactic
import Derived.Test.YtdmdjlnpbmiadaaBase
import Derived.Test.YtdmdjlnpbmiadaaMem
import Derived.Test.YtdmdjlnpbmiadaaNameS
import Derived.Test.YtdmdjlnpbmiadaaNum
/- Fixups and sections in memory. -/
namespace Go.Proofs.Ytdmdjlnpbmiadaa
open Go.RowKit

/-- A fixup, as numbers. -/
structure Fx where
  pl : Int
  kind : Int
  to : Int
  add : Int
def Fx.agg (f : Fx) : Value := .agg #[.int .i64 f.pl, .int .i64 f.kind, .int .i64 f.to, .int .i64 f.add]
























/-- The slice at address 'a' holds these fixups, in a block below 'B' (where it holds any). -/
def Fixs (w : World) (B : Nat) (a : Option Addr) (fs : List Fx) : Prop :=
  0 < fs.length → ∃ b off, a = some ⟨b, off, none⟩ ∧ b < B ∧ ∀ i f, fs[i]? = some f →
    w.cell? ⟨b, off + i * 4, none⟩ = some (.int .i64 f.pl) ∧ w.cell? ⟨b, off + i * 4 + 1, none⟩ = some (.int .i64 f.kind) ∧ w.cell? ⟨b, off + i * 4 + 2, none⟩ = some (.int .i64 f.to) ∧ w.cell? ⟨b, off + i * 4 + 3, none⟩ = some (.int .i64 f.add)
section
variable {w w' : World} {B B' : Nat} {a : Option Addr} {fs : List Fx}
theorem Fixs.at_ (h : Fixs w B a fs) {i : Nat} (hi : i < fs.length) : ∃ b off, a = some ⟨b, off, none⟩ ∧ b < B ∧
    w.cell? ⟨b, off + i * 4, none⟩ = some (.int .i64 fs[i].pl) ∧ w.cell? ⟨b, off + i * 4 + 1, none⟩ = some (.int .i64 fs[i].kind) ∧ w.cell? ⟨b, off + i * 4 + 2, none⟩ = some (.int .i64 fs[i].to) ∧ w.cell? ⟨b, off + i * 4 + 3, none⟩ = some (.int .i64 fs[i].add) := by
  obtain ⟨b, off, ha, hb, hc⟩ := h (by omega)
  exact ⟨b, off, ha, hb, hc i _ (List.getElem?_eq_getElem hi)⟩
theorem Fixs.keep (h : Fixs w B a fs) (hk : ∀ p : Addr, p.block < B → w'.cell? p = w.cell? p) : Fixs w' B a fs := fun hn => by
  obtain ⟨b, off, ha, hb, hc⟩ := h hn
  refine ⟨b, off, ha, hb, fun i f hi => ?_⟩
  obtain ⟨c0, c1, c2, c3⟩ := hc i f hi
  exact ⟨(hk _ hb).trans c0, (hk _ hb).trans c1, (hk _ hb).trans c2, (hk _ hb).trans c3⟩
theorem Fixs.more (h : Fixs w B a fs) (hB : B ≤ B') : Fixs w B' a fs := fun hn => by
  obtain ⟨b, off, ha, hb, hc⟩ := h hn
  exact ⟨b, off, ha, by omega, hc⟩
theorem Fixs.below (h : Fixs w B a fs) (hb : Below B w w') : Fixs w' B a fs := h.keep fun _ hp => hb.cell hp
theorem Fixs.drewN (h : Fixs w B a fs) (n : Nat) : Fixs (w.drewN n) B a fs := h
theorem Fixs.alloc (h : Fixs w B a fs) (hB : B ≤ w.heap.size) (o : Obj) : Fixs (w.alloc o) B a fs := h.keep fun p hp => World.cell?_alloc_lt w o p (by omega)
theorem Fixs.set {g : Nat} (h : Fixs w B (some ⟨g, 0, none⟩) fs) {p : Addr} (hp : g ≠ p.block) (u : Value) : Fixs (w.setCell p u) B (some ⟨g, 0, none⟩) fs := fun hn => by
  obtain ⟨b, off, ha, hb, hc⟩ := h hn
  injection ha with ha
  injection ha with e1 e2
  subst e1; subst e2
  have hk : ∀ i, (w.setCell p u).cell? ⟨g, i, none⟩ = w.cell? ⟨g, i, none⟩ := fun i => World.cell?_of_block (Below.heap_setCell w p u g hp)
  refine ⟨g, 0, rfl, hb, fun i f hi => ?_⟩
  obtain ⟨c0, c1, c2, c3⟩ := hc i f hi
  exact ⟨(hk _).trans c0, (hk _).trans c1, (hk _).trans c2, (hk _).trans c3⟩
theorem Fixs.nil : Fixs w B a [] := fun h => by simp at h
end



































theorem run_make_k {P : Program} (t e : TypeId) (z : Value) (size bytes : Nat) (ht : P.underlying t = some (.slice e)) (hinfo : (P.info? e).map (fun i => (i.zero, i.size, i.bytes)) = some (some z, size, bytes))
    (kl kc : IntKind) (n : Nat) (hbytes : bytes * n ≤ 281474976710656) (h63 : n ≤ 9223372036854775807) (w : World) :
    (Instr.makeSlice t (.int kl (n : Int)) (.int kc (n : Int))).run P w = .ok (.slice (some ⟨w.heap.size, 0, none⟩) n n) (w.alloc (.cells (madeCells z.cells (n * size)) e)) := by
  obtain ⟨i, hi, hzz⟩ := Option.map_eq_some_iff.1 hinfo
  simp only [Prod.mk.injEq] at hzz
  obtain ⟨hz, hs, hb⟩ := hzz
  have hb' : (i.bytes : Int) * (n : Int) ≤ 281474976710656 := by
    have h : ((i.bytes * n : Nat) : Int) ≤ 281474976710656 := by rw [hb]; omega
    rwa [Int.natCast_mul] at h
  have hr := run_make (P := P) w t e i z ht hi hz kl kc n n (by omega) (Int.le_refl _) hb' (by omega)
  simp only [Int.toNat_natCast, hs] at hr
  exact hr

/-- The cells of a row of fixups that has been filled up to k. -/
def FilledF (cs : Array Value) (fs : List Fx) (k : Nat) : Prop :=
  cs.size = fs.length * 4 ∧ ∀ i f, i < k → fs[i]? = some f → cs[i * 4]? = some (.int .i64 f.pl) ∧ cs[i * 4 + 1]? = some (.int .i64 f.kind) ∧ cs[i * 4 + 2]? = some (.int .i64 f.to) ∧ cs[i * 4 + 3]? = some (.int .i64 f.add)
def putF (cs : Array Value) (k : Nat) (f : Fx) : Array Value :=
  (((cs.setIfInBounds (k * 4) (.int .i64 f.pl)).setIfInBounds (k * 4 + 1) (.int .i64 f.kind)).setIfInBounds (k * 4 + 2) (.int .i64 f.to)).setIfInBounds (k * 4 + 3) (.int .i64 f.add)
theorem FilledF.next {cs : Array Value} {fs : List Fx} {k : Nat} {f : Fx} (h : FilledF cs fs k) (hf : fs[k]? = some f) : FilledF (putF cs k f) fs (k + 1) := by
  have hk : k < fs.length := (List.getElem?_eq_some_iff.1 hf).1
  have hs := h.1
  refine ⟨by simp [putF, hs], fun i g hi hg => ?_⟩
  by_cases e : i = k
  · subst e
    rw [hf] at hg; injection hg with hg; subst hg
    unfold putF
    simp only [Array.getElem?_setIfInBounds, Array.size_setIfInBounds, hs]
    refine ⟨?_, ?_, ?_, ?_⟩ <;> simp <;> omega
  · obtain ⟨c0, c1, c2, c3⟩ := h.2 i g (by omega) hg
    unfold putF
    simp only [Array.getElem?_setIfInBounds, Array.size_setIfInBounds]
    refine ⟨?_, ?_, ?_, ?_⟩
    · rw [if_neg (by omega), if_neg (by omega), if_neg (by omega), if_neg (by omega)]; exact c0
    · rw [if_neg (by omega), if_neg (by omega), if_neg (by omega), if_neg (by omega)]; exact c1
    · rw [if_neg (by omega), if_neg (by omega), if_neg (by omega), if_neg (by omega)]; exact c2
    · rw [if_neg (by omega), if_neg (by omega), if_neg (by omega), if_neg (by omega)]; exact c3











































































end Go.Proofs.Ytdmdjlnpbmiadaa
/- Symbols in memory. -/
namespace Go.Proofs.Ytdmdjlnpbmiadaa
open Go.RowKit

/-- A symbol. -/
structure Sm where
  name : ByteArray
  bind : Int
  loc : Int
  value : Int
def Sm.agg (f : Sm) : Value := .agg #[.string f.name, .int .i64 f.bind, .int .i64 f.loc, .int .i64 f.value]
























/-- The slice at address 'a' holds these symbols, in a block below 'B' (where it holds any). -/
def Syms (w : World) (B : Nat) (a : Option Addr) (fs : List Sm) : Prop :=
  0 < fs.length → ∃ b off, a = some ⟨b, off, none⟩ ∧ b < B ∧ ∀ i f, fs[i]? = some f →
    w.cell? ⟨b, off + i * 4, none⟩ = some (.string f.name) ∧ w.cell? ⟨b, off + i * 4 + 1, none⟩ = some (.int .i64 f.bind) ∧ w.cell? ⟨b, off + i * 4 + 2, none⟩ = some (.int .i64 f.loc) ∧ w.cell? ⟨b, off + i * 4 + 3, none⟩ = some (.int .i64 f.value)
section
variable {w w' : World} {B B' : Nat} {a : Option Addr} {fs : List Sm}
theorem Syms.at_ (h : Syms w B a fs) {i : Nat} (hi : i < fs.length) : ∃ b off, a = some ⟨b, off, none⟩ ∧ b < B ∧
    w.cell? ⟨b, off + i * 4, none⟩ = some (.string fs[i].name) ∧ w.cell? ⟨b, off + i * 4 + 1, none⟩ = some (.int .i64 fs[i].bind) ∧ w.cell? ⟨b, off + i * 4 + 2, none⟩ = some (.int .i64 fs[i].loc) ∧ w.cell? ⟨b, off + i * 4 + 3, none⟩ = some (.int .i64 fs[i].value) := by
  obtain ⟨b, off, ha, hb, hc⟩ := h (by omega)
  exact ⟨b, off, ha, hb, hc i _ (List.getElem?_eq_getElem hi)⟩
theorem Syms.keep (h : Syms w B a fs) (hk : ∀ p : Addr, p.block < B → w'.cell? p = w.cell? p) : Syms w' B a fs := fun hn => by
  obtain ⟨b, off, ha, hb, hc⟩ := h hn
  refine ⟨b, off, ha, hb, fun i f hi => ?_⟩
  obtain ⟨c0, c1, c2, c3⟩ := hc i f hi
  exact ⟨(hk _ hb).trans c0, (hk _ hb).trans c1, (hk _ hb).trans c2, (hk _ hb).trans c3⟩
theorem Syms.more (h : Syms w B a fs) (hB : B ≤ B') : Syms w B' a fs := fun hn => by
  obtain ⟨b, off, ha, hb, hc⟩ := h hn
  exact ⟨b, off, ha, by omega, hc⟩
theorem Syms.below (h : Syms w B a fs) (hb : Below B w w') : Syms w' B a fs := h.keep fun _ hp => hb.cell hp
theorem Syms.drewN (h : Syms w B a fs) (n : Nat) : Syms (w.drewN n) B a fs := h
theorem Syms.alloc (h : Syms w B a fs) (hB : B ≤ w.heap.size) (o : Obj) : Syms (w.alloc o) B a fs := h.keep fun p hp => World.cell?_alloc_lt w o p (by omega)
theorem Syms.set {g : Nat} (h : Syms w B (some ⟨g, 0, none⟩) fs) {p : Addr} (hp : g ≠ p.block) (u : Value) : Syms (w.setCell p u) B (some ⟨g, 0, none⟩) fs := fun hn => by
  obtain ⟨b, off, ha, hb, hc⟩ := h hn
  injection ha with ha
  injection ha with e1 e2
  subst e1; subst e2
  have hk : ∀ i, (w.setCell p u).cell? ⟨g, i, none⟩ = w.cell? ⟨g, i, none⟩ := fun i => World.cell?_of_block (Below.heap_setCell w p u g hp)
  refine ⟨g, 0, rfl, hb, fun i f hi => ?_⟩
  obtain ⟨c0, c1, c2, c3⟩ := hc i f hi
  exact ⟨(hk _).trans c0, (hk _).trans c1, (hk _).trans c2, (hk _).trans c3⟩
theorem Syms.nil : Syms w B a [] := fun h => by simp at h
end




































/-- The cells of a row of symbols that has been filled up to k. -/
def FilledS (cs : Array Value) (fs : List Sm) (k : Nat) : Prop :=
  cs.size = fs.length * 4 ∧ ∀ i f, i < k → fs[i]? = some f → cs[i * 4]? = some (.string f.name) ∧ cs[i * 4 + 1]? = some (.int .i64 f.bind) ∧ cs[i * 4 + 2]? = some (.int .i64 f.loc) ∧ cs[i * 4 + 3]? = some (.int .i64 f.value)
def putS (cs : Array Value) (k : Nat) (f : Sm) : Array Value :=
  (((cs.setIfInBounds (k * 4) (.string f.name)).setIfInBounds (k * 4 + 1) (.int .i64 f.bind)).setIfInBounds (k * 4 + 2) (.int .i64 f.loc)).setIfInBounds (k * 4 + 3) (.int .i64 f.value)
theorem FilledS.next {cs : Array Value} {fs : List Sm} {k : Nat} {f : Sm} (h : FilledS cs fs k) (hf : fs[k]? = some f) : FilledS (putS cs k f) fs (k + 1) := by
  have hk : k < fs.length := (List.getElem?_eq_some_iff.1 hf).1
  have hs := h.1
  refine ⟨by simp [putS, hs], fun i g hi hg => ?_⟩
  by_cases e : i = k
  · subst e
    rw [hf] at hg; injection hg with hg; subst hg
    unfold putS
    simp only [Array.getElem?_setIfInBounds, Array.size_setIfInBounds, hs]
    refine ⟨?_, ?_, ?_, ?_⟩ <;> simp <;> omega
  · obtain ⟨c0, c1, c2, c3⟩ := h.2 i g (by omega) hg
    unfold putS
    simp only [Array.getElem?_setIfInBounds, Array.size_setIfInBounds]
    refine ⟨?_, ?_, ?_, ?_⟩
    · rw [if_neg (by omega), if_neg (by omega), if_neg (by omega), if_neg (by omega)]; exact c0
    · rw [if_neg (by omega), if_neg (by omega), if_neg (by omega), if_neg (by omega)]; exact c1
    · rw [if_neg (by omega), if_neg (by omega), if_neg (by omega), if_neg (by omega)]; exact c2
    · rw [if_neg (by omega), if_neg (by omega), if_neg (by omega), if_neg (by omega)]; exact c3











































































end Go.Proofs.Ytdmdjlnpbmiadaa
/- Sections: plain words, and the model's functions of chapter 3. -/
namespace Go.Proofs.Ytdmdjlnpbmiadaa
open Go.RowKit

/-- How many bytes a fixup of a kind fills. -/
def wideOf (k : Int) : Int := if k = 1 then 1 else if k = 2 then 2 else if k = 3 then 4 else 0
theorem wideOf_bounds (k : Int) : 0 ≤ wideOf k ∧ wideOf k ≤ 4 := by unfold wideOf; split <;> (try split) <;> (try split) <;> omega































/-- A section, as plain data. -/
structure Sx where
  name : ByteArray
  kind : Int
  align : Int
  bytes : List Int
  size : Int
  fixs : List Fx
def Sx.agg (s : Sx) (a1 : Option Addr) (c1 : Nat) (a2 : Option Addr) (c2 : Nat) : Value :=
  .agg #[.string s.name, .int .i64 s.kind, .int .i64 s.align, .slice a1 s.bytes.length c1, .int .i64 s.size, .slice a2 s.fixs.length c2]
def Sx.long (s : Sx) : Int := if s.kind = 3 then s.size else (s.bytes.length : Int)





















def fixOk (n many e : Int) (f : Fx) : Bool :=
  decide (wideOf f.kind ≠ 0) && decide (0 ≤ f.to) && decide (f.to < many) && decide (-1000 ≤ f.add ∧ f.add ≤ 1000) && decide (e ≤ f.pl ∧ f.pl ≤ n - wideOf f.kind)
def fixsOk (n many : Int) : Int → List Fx → Bool
  | _, [] => true
  | e, f :: r => fixOk n many e f && fixsOk n many (f.pl + wideOf f.kind) r
def sectOk (s : Sx) (many : Int) : Bool :=
  nameOk s.name.data.toList && decide (1 ≤ s.kind ∧ s.kind ≤ 3) && decide (s.align = 1 ∨ s.align = 2 ∨ s.align = 4 ∨ s.align = 8) && decide (s.bytes.length ≤ 48) && decide (s.fixs.length ≤ 6) && decide (0 ≤ s.size ∧ s.size ≤ 48) &&
  (if s.kind = 3 then decide (s.bytes.length = 0) && decide (s.fixs.length = 0) else fixsOk s.bytes.length many 0 s.fixs && decide (s.size = 0))

























































































































































































































































end Go.Proofs.Ytdmdjlnpbmiadaa
/- The laws' own functions on sections: their sizes, copies, comparisons. laws.eqSection: equal sections are found equal. -/
/- The laws' own functions on sections: their sizes, copies, comparisons. -/
namespace Go.Proofs.Ytdmdjlnpbmiadaa
open Go.RowKit

/-- What is left of a number, less so many. -/
def leftOf (left : Int) (n : Nat) : Int := if left < n then -1 else left - n
































/-- What szSection answers: -1, or a number that tells that nothing is long. -/
def SizedX (w : World) (s : Sx) (e : Ending) (w' : World) : Prop :=
  ∃ r : Int, e = .returned (.int .i64 r) ∧ Below w.heap.size w w' ∧ -1 ≤ r ∧ r ≤ 1048576 ∧ (0 ≤ r → s.name.size ≤ 1048576 ∧ s.bytes.length ≤ 1048576 ∧ s.fixs.length ≤ 1048576)






















































/-- A section's value, and what it leads to. -/
def SectV (w : World) (B : Nat) (s : Sx) (v : Value) : Prop :=
  ∃ a1 c1 a2 c2, v = s.agg a1 c1 a2 c2 ∧ Ints w .u8 B a1 s.bytes ∧ Fixs w B a2 s.fixs
theorem ints_wf_bytes {w : World} {B : Nat} {a : Option Addr} {l : List Int} (h : Ints w .u8 B a l) : ∀ x ∈ l, (Lit.int .u8 x).wf = true := h.1










































































































end Go.Proofs.Ytdmdjlnpbmiadaa
/- laws.eqSection: equal sections are found equal. -/
namespace Go.Proofs.Ytdmdjlnpbmiadaa
open Go.RowKit
































end Go.Proofs.Ytdmdjlnpbmiadaa
/- Sections in a list in memory. -/
namespace Go.Proofs.Ytdmdjlnpbmiadaa
open Go.RowKit

/-- What szSection answers, whatever was left: -1, or a number that tells that nothing is long. -/
def SizedG (w : World) (s : Sx) (e : Ending) (w' : World) : Prop :=
  ∃ r : Int, e = .returned (.int .i64 r) ∧ Below w.heap.size w w' ∧ -1 ≤ r ∧ r ≤ 1048576 ∧ (0 ≤ r → s.name.size ≤ 1048576 ∧ s.bytes.length ≤ 1048576 ∧ s.fixs.length ≤ 1048576)






















































/-- A section and where its lists lie. -/
structure Sp where
  s : Sx
  a1 : Option Addr
  c1 : Nat
  a2 : Option Addr
  c2 : Nat
def Sp.agg (y : Sp) : Value := y.s.agg y.a1 y.c1 y.a2 y.c2
/-- The cells of a section at a place. -/
def SecAt (w : World) (b o : Nat) (y : Sp) : Prop :=
  w.cell? ⟨b, o, none⟩ = some (.string y.s.name) ∧ w.cell? ⟨b, o + 1, none⟩ = some (.int .i64 y.s.kind) ∧ w.cell? ⟨b, o + 2, none⟩ = some (.int .i64 y.s.align) ∧
  w.cell? ⟨b, o + 3, none⟩ = some (.slice y.a1 y.s.bytes.length y.c1) ∧ w.cell? ⟨b, o + 4, none⟩ = some (.int .i64 y.s.size) ∧ w.cell? ⟨b, o + 5, none⟩ = some (.slice y.a2 y.s.fixs.length y.c2)
/-- The slice at address 'a' holds these sections, below 'B' with all that they lead to. -/
structure Sects (w : World) (B : Nat) (a : Option Addr) (l : List Sp) : Prop where
  row : 0 < l.length → ∃ b off, a = some ⟨b, off, none⟩ ∧ b < B ∧ ∀ i y, l[i]? = some y → SecAt w b (off + i * 6) y
  bytes : ∀ y ∈ l, Ints w .u8 B y.a1 y.s.bytes
  fixs : ∀ y ∈ l, Fixs w B y.a2 y.s.fixs
section
variable {w w' : World} {B B' : Nat} {a : Option Addr} {l : List Sp}
theorem SecAt.keep {b o : Nat} {y : Sp} (h : SecAt w b o y) (hk : ∀ i, w'.cell? ⟨b, i, none⟩ = w.cell? ⟨b, i, none⟩) : SecAt w' b o y :=
  ⟨(hk _).trans h.1, (hk _).trans h.2.1, (hk _).trans h.2.2.1, (hk _).trans h.2.2.2.1, (hk _).trans h.2.2.2.2.1, (hk _).trans h.2.2.2.2.2⟩
theorem Sects.keep (h : Sects w B a l) (hk : ∀ p : Addr, p.block < B → w'.cell? p = w.cell? p) : Sects w' B a l :=
  ⟨fun hn => by
    obtain ⟨b, off, ha, hb, hc⟩ := h.row hn
    exact ⟨b, off, ha, hb, fun i y hi => (hc i y hi).keep fun _ => hk _ hb⟩, fun y hy => (h.bytes y hy).keep hk, fun y hy => (h.fixs y hy).keep hk⟩
theorem Sects.more (h : Sects w B a l) (hB : B ≤ B') : Sects w B' a l :=
  ⟨fun hn => by
    obtain ⟨b, off, ha, hb, hc⟩ := h.row hn
    exact ⟨b, off, ha, by omega, hc⟩, fun y hy => (h.bytes y hy).more hB, fun y hy => (h.fixs y hy).more hB⟩
theorem Sects.below (h : Sects w B a l) (hb : Below B w w') : Sects w' B a l := h.keep fun _ hp => hb.cell hp
theorem Sects.drewN (h : Sects w B a l) (n : Nat) : Sects (w.drewN n) B a l := ⟨h.row, h.bytes, h.fixs⟩
theorem Sects.alloc (h : Sects w B a l) (hB : B ≤ w.heap.size) (o : Obj) : Sects (w.alloc o) B a l := h.keep fun p hp => World.cell?_alloc_lt w o p (by omega)
theorem Sects.nil : Sects w B a [] := ⟨fun h => by simp at h, by simp, by simp⟩
theorem Sects.at_ (h : Sects w B a l) {i : Nat} (hi : i < l.length) : ∃ b off, a = some ⟨b, off, none⟩ ∧ b < B ∧ SecAt w b (off + i * 6) l[i] := by
  obtain ⟨b, off, ha, hb, hc⟩ := h.row (by omega)
  exact ⟨b, off, ha, hb, hc i _ (List.getElem?_eq_getElem hi)⟩
end
/-- Nothing in a section is long. -/
def Sx.short (s : Sx) : Prop := s.name.size ≤ 1048576 ∧ s.bytes.length ≤ 1048576 ∧ s.fixs.length ≤ 1048576
/-- The lengths in a section are lengths of the machine. -/
def Sx.lens (s : Sx) : Prop := s.name.size ≤ maxLen ∧ s.bytes.length ≤ 9223372036854775807 ∧ s.fixs.length ≤ 9223372036854775807
def SizedS (w : World) (l : List Sp) (e : Ending) (w' : World) : Prop :=
  ∃ r : Int, e = .returned (.int .i64 r) ∧ Below w.heap.size w w' ∧ -1 ≤ r ∧ r ≤ 1048576 ∧ (0 ≤ r → l.length ≤ 1048576 ∧ ∀ y ∈ l, y.s.short)

































































end Go.Proofs.Ytdmdjlnpbmiadaa
/- Sections in a list: toSectionS. Sections in a list: eqSectionS. -/
/- Sections in a list: toSectionS. -/
namespace Go.Proofs.Ytdmdjlnpbmiadaa
open Go.RowKit

/-- The first cells of a row of sections are these sections'. -/
def FilledX (cs : Array Value) (n : Nat) (l : List Sp) : Prop := cs.size = n * 6 ∧ ∀ i y, l[i]? = some y → cs[i * 6]? = some (.string y.s.name) ∧ cs[i * 6 + 1]? = some (.int .i64 y.s.kind) ∧ cs[i * 6 + 2]? = some (.int .i64 y.s.align) ∧ cs[i * 6 + 3]? = some (.slice y.a1 y.s.bytes.length y.c1) ∧ cs[i * 6 + 4]? = some (.int .i64 y.s.size) ∧ cs[i * 6 + 5]? = some (.slice y.a2 y.s.fixs.length y.c2)
def putX (cs : Array Value) (k : Nat) (y : Sp) : Array Value := ((((((cs.setIfInBounds (k * 6) (.string y.s.name)).setIfInBounds (k * 6 + 1) (.int .i64 y.s.kind)).setIfInBounds (k * 6 + 2) (.int .i64 y.s.align)).setIfInBounds (k * 6 + 3) (.slice y.a1 y.s.bytes.length y.c1)).setIfInBounds (k * 6 + 4) (.int .i64 y.s.size)).setIfInBounds (k * 6 + 5) (.slice y.a2 y.s.fixs.length y.c2))
def setX (w : World) (g k : Nat) (y : Sp) : World := ((((((w.setCell ⟨g, k * 6, none⟩ (.string y.s.name)).setCell ⟨g, k * 6 + 1, none⟩ (.int .i64 y.s.kind)).setCell ⟨g, k * 6 + 2, none⟩ (.int .i64 y.s.align)).setCell ⟨g, k * 6 + 3, none⟩ (.slice y.a1 y.s.bytes.length y.c1)).setCell ⟨g, k * 6 + 4, none⟩ (.int .i64 y.s.size)).setCell ⟨g, k * 6 + 5, none⟩ (.slice y.a2 y.s.fixs.length y.c2))
theorem FilledX.next {cs : Array Value} {n k : Nat} {l : List Sp} (h : FilledX cs n l) (hl : l.length = k) (hk : k < n) (y : Sp) : FilledX (putX cs k y) n (l ++ [y]) := by
  have hs := h.1
  refine ⟨by simp [putX, hs], fun i z hz => ?_⟩
  unfold putX
  simp only [Array.getElem?_setIfInBounds, Array.size_setIfInBounds, hs]
  by_cases e : i = k
  · subst e
    rw [List.getElem?_append_right (by omega), hl, Nat.sub_self] at hz
    simp at hz
    subst hz
    refine ⟨?_, ?_, ?_, ?_, ?_, ?_⟩ <;> simp <;> omega
  · have hi : i < k := by
      have := (List.getElem?_eq_some_iff.1 hz).1
      rw [List.length_append] at this
      simp at this
      omega
    rw [List.getElem?_append_left (by omega)] at hz
    obtain ⟨c0, c1, c2, c3, c4, c5⟩ := h.2 i z hz
    refine ⟨?_, ?_, ?_, ?_, ?_, ?_⟩
    · rw [if_neg (by omega), if_neg (by omega), if_neg (by omega), if_neg (by omega), if_neg (by omega), if_neg (by omega)]; exact c0
    · rw [if_neg (by omega), if_neg (by omega), if_neg (by omega), if_neg (by omega), if_neg (by omega), if_neg (by omega)]; exact c1
    · rw [if_neg (by omega), if_neg (by omega), if_neg (by omega), if_neg (by omega), if_neg (by omega), if_neg (by omega)]; exact c2
    · rw [if_neg (by omega), if_neg (by omega), if_neg (by omega), if_neg (by omega), if_neg (by omega), if_neg (by omega)]; exact c3
    · rw [if_neg (by omega), if_neg (by omega), if_neg (by omega), if_neg (by omega), if_neg (by omega), if_neg (by omega)]; exact c4
    · rw [if_neg (by omega), if_neg (by omega), if_neg (by omega), if_neg (by omega), if_neg (by omega), if_neg (by omega)]; exact c5






theorem Ints.put' {w : World} {k : IntKind} {B b g : Nat} {l : List Int} (h : Ints w k B (some ⟨b, 0, none⟩) l) (hp : b ≠ g) (j : Nat) (u : Value) : Ints (w.setCell ⟨g, j, none⟩ u) k B (some ⟨b, 0, none⟩) l :=
  ⟨h.1, fun hn => by
    obtain ⟨b', off, ha, hb, hc⟩ := h.2 hn
    injection ha with ha
    injection ha with e1 e2
    subst e1; subst e2
    exact ⟨b, 0, rfl, hb, fun i hi => (World.cell?_of_block (Below.heap_setCell w ⟨g, j, none⟩ u b hp)).trans (hc i hi)⟩⟩









theorem below_setX {w w' : World} {B g : Nat} (h : Below B w w') (hg : B ≤ g) (k : Nat) (y : Sp) : Below B w (setX w' g k y) :=
  ((((((h.setCell (p := ⟨g, k * 6, none⟩) hg (.string y.s.name)).setCell (p := ⟨g, k * 6 + 1, none⟩) hg (.int .i64 y.s.kind)).setCell (p := ⟨g, k * 6 + 2, none⟩) hg (.int .i64 y.s.align)).setCell (p := ⟨g, k * 6 + 3, none⟩) hg (.slice y.a1 y.s.bytes.length y.c1)).setCell (p := ⟨g, k * 6 + 4, none⟩) hg (.int .i64 y.s.size)).setCell (p := ⟨g, k * 6 + 5, none⟩) hg (.slice y.a2 y.s.fixs.length y.c2))































































































































end Go.Proofs.Ytdmdjlnpbmiadaa
/- Sections in a list: eqSectionS. -/
namespace Go.Proofs.Ytdmdjlnpbmiadaa
open Go.RowKit
























































end Go.Proofs.Ytdmdjlnpbmiadaa

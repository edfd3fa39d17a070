import Derived.Deep.Cut
import Derived.Deep.CutRange
import Derived.Deep.RegionHeld3
import Derived.IntWalk
import Derived.Test.YtpfombelhajmlaaGreatDoorRegion
import Derived.Test.YtpfombelhajmlaaGreatDoorBase
import Derived.Test.YtpfombelhajmlaaGreatDoorSecs
import Derived.Test.YtpfombelhajmlaaGreatDoorDrawN
import Derived.Test.YtpfombelhajmlaaGreatDoorSR
namespace Go.Proofs.YtpfombelhajmlaaGreatDoor
open Go.RowKit
end Go.Proofs.YtpfombelhajmlaaGreatDoor
namespace Go.Proofs.YtpfombelhajmlaaGreatDoor
open Go.RowKit
section
variable {P : Program} {ops : Array Oper} {Q : Exit → Act → World → Prop}
def After3 (ops : Array Oper) (D : Nat → Prop) (J : (Nat → Prop) → World → Prop) (R : Nat → World → Value → Prop) (i : Nat) (d : Option Tmp) (a : Act) (w : World) (a' : Act) (w' : World) : Prop :=
  ∃ v, a' = a.put d v ∧ J (fun u => u = i ∨ D u) w' ∧ (∀ j u, NeededBy ops D i j → R j w u → R j w' u) ∧ R i w' v
theorem After3.mk {ops : Array Oper} {D : Nat → Prop} {J : (Nat → Prop) → World → Prop} {R : Nat → World → Value → Prop} {i : Nat} {d : Option Tmp} {a : Act} {w : World} {a' : Act} {w' : World} (v : Value) (h : a' = a.put d v) (hJ : J (fun u => u = i ∨ D u) w')
    (hs : ∀ j u, NeededBy ops D i j → R j w u → R j w' u) (hR : R i w' v) : After3 ops D J R i d a w a' w' := ⟨v, h, hJ, hs, hR⟩
end
end Go.Proofs.YtpfombelhajmlaaGreatDoor
namespace Go.Proofs.YtpfombelhajmlaaGreatDoor
open Go.RowKit
def Fx.small (f : Fx) : Prop := -10 ≤ f.pl ∧ f.pl ≤ 100 ∧ -10 ≤ f.kind ∧ f.kind ≤ 100 ∧ -10 ≤ f.to ∧ f.to ≤ 100 ∧ -2000 ≤ f.add ∧ f.add ≤ 2000
structure Sx.small (s : Sx) : Prop where
  name : s.name.size ≤ 9
  kind0 : 0 ≤ s.kind
  kind1 : s.kind ≤ 4
  align0 : 0 ≤ s.align
  align1 : s.align ≤ 16
  size0 : -1 ≤ s.size
  size1 : s.size ≤ 49
  bytes : s.bytes.length ≤ 49
  wf : ∀ x ∈ s.bytes, (Lit.int .u8 x).wf = true
  count : s.fixs.length ≤ 4
  fixs : ∀ f ∈ s.fixs, f.small
structure DS (w W : World) (B g gs : Nat) (P : Int) (s : Sx) (a1 : Option Addr) (c1 : Nat) (a2 : Option Addr) (c2 : Nat) : Prop where
  rd : Rd W B g P
  grown : w.grownBy W (some g)
  res : Has W w.heap.size 52 #[.string ⟨#[]⟩, .int .i64 0, .int .i64 0, .slice none 0 0, .int .i64 0, .slice none 0 0]
  high : w.heap.size < gs
  sec : Has W gs 52 #[.string s.name, .int .i64 s.kind, .int .i64 s.align, .slice a1 s.bytes.length c1, .int .i64 s.size, .slice a2 s.fixs.length c2]
  own1 : W.ownsRow w.heap.size 5 1 (.slice a1 s.bytes.length c1) s.bytes.length (s.bytes.map (Value.int .u8))
  own2 : W.ownsRow w.heap.size 55 4 (.slice a2 s.fixs.length c2) s.fixs.length (flatF s.fixs)
  small : s.small
section
variable {w W W' : World} {B g gs : Nat} {P P' : Int} {s : Sx} {a1 : Option Addr} {c1 : Nat} {a2 : Option Addr} {c2 : Nat}
theorem DS.lt (d : DS w W B g gs P s a1 c1 a2 c2) (hg : g < w.heap.size) : g ≠ gs := by have := d.high; omega
theorem DS.more (d : DS w W B g gs P s a1 c1 a2 c2) (hP : P ≤ P') : DS w W B g gs P' s a1 c1 a2 c2 := { d with rd := d.rd.mono hP }
theorem DS.alloc (d : DS w W B g gs P s a1 c1 a2 c2) (o : Obj) : DS w (W.alloc o) B g gs P s a1 c1 a2 c2 :=
  ⟨d.rd.alloc o, only_alloc d.grown o, d.res.alloc o, d.high, d.sec.alloc o, d.own1.alloc o, d.own2.alloc o, d.small⟩
theorem DS.kept (d : DS w W B g gs P s a1 c1 a2 c2) (_ : g < w.heap.size) (hg : W.grownBy W' none) : DS w W' B g gs P s a1 c1 a2 c2 :=
  ⟨d.rd.grown hg (by simp), only_trans d.grown ⟨hg.os, hg.tape, hg.output, hg.size, fun k hk _ => hg.block k hk (by simp)⟩, d.res.grown hg (by simp), d.high, d.sec.grown hg (by simp), d.own1.kept hg (Classical.em _), d.own2.kept hg (Classical.em _), d.small⟩
theorem DS.put (d : DS w W B g gs P s a1 c1 a2 c2) (hl : g < w.heap.size) (k : Nat) (u : Value) {t : Sx} (hb : t.bytes = s.bytes) (hf : t.fixs = s.fixs) (ht : t.small)
    (he : (#[.string s.name, .int .i64 s.kind, .int .i64 s.align, .slice a1 s.bytes.length c1, .int .i64 s.size, .slice a2 s.fixs.length c2] : Array Value).setIfInBounds k u = #[.string t.name, .int .i64 t.kind, .int .i64 t.align, .slice a1 s.bytes.length c1, .int .i64 t.size, .slice a2 s.fixs.length c2]) :
    DS w (W.setCell ⟨gs, k, none⟩ u) B g gs P t a1 c1 a2 c2 := by
  have hg : W.grownBy (W.setCell ⟨gs, k, none⟩ u) (some gs) := only_put' (g := gs) k u
  have hh := d.high
  have hB := d.rd.1
  have hgr : w.grownBy (W.setCell ⟨gs, k, none⟩ u) (some g) := ⟨hg.os.trans d.grown.os, hg.tape.trans d.grown.tape, hg.output.trans d.grown.output, Nat.le_trans d.grown.size hg.size, fun i hi hne => (hg.block i (Nat.lt_of_lt_of_le hi d.grown.size) (fun e => by injection e with e; omega)).trans (d.grown.block i hi hne)⟩
  refine ⟨d.rd.grown hg (fun j hj => by injection hj with hj; omega), hgr, d.res.away (p := ⟨gs, k, none⟩) (by show _ ≠ gs; omega) u, hh, ?_, ?_, ?_, ht⟩
  · rw [hb, hf, ← he]; exact d.sec.put k u
  · rw [hb]; exact d.own1.kept hg (row_apart d.own1 d.sec (by decide))
  · rw [hf]; exact d.own2.kept hg (row_apart d.own2 d.sec (by decide))
theorem DS.bytes (d : DS w W B g gs P s a1 c1 a2 c2) (hl : g < w.heap.size) {b1 : Option Addr} {d1 : Nat} {bs : List Int} (ho : W.ownsRow w.heap.size 5 1 (.slice b1 bs.length d1) bs.length (bs.map (Value.int .u8))) (ht : ({ s with bytes := bs } : Sx).small) :
    DS w (W.setCell ⟨gs, 3, none⟩ (.slice b1 bs.length d1)) B g gs P { s with bytes := bs } b1 d1 a2 c2 := by
  have hg : W.grownBy (W.setCell ⟨gs, 3, none⟩ (.slice b1 bs.length d1)) (some gs) := only_put' (g := gs) 3 _
  have hh := d.high
  have hB := d.rd.1
  have hgr : w.grownBy (W.setCell ⟨gs, 3, none⟩ (.slice b1 bs.length d1)) (some g) := ⟨hg.os.trans d.grown.os, hg.tape.trans d.grown.tape, hg.output.trans d.grown.output, Nat.le_trans d.grown.size hg.size, fun i hi hne => (hg.block i (Nat.lt_of_lt_of_le hi d.grown.size) (fun e => by injection e with e; omega)).trans (d.grown.block i hi hne)⟩
  exact ⟨d.rd.grown hg (fun j hj => by injection hj with hj; omega), hgr, d.res.away (p := ⟨gs, 3, none⟩) (by show _ ≠ gs; omega) _, hh, d.sec.put 3 _, ho.kept hg (row_apart ho d.sec (by decide)), d.own2.kept hg (row_apart d.own2 d.sec (by decide)), ht⟩
theorem DS.app (d : DS w W B g gs P s a1 c1 a2 c2) (hl : g < w.heap.size) {v : Value} {f : Fx} (ho : W'.ownsRow w.heap.size 55 4 v (s.fixs.length + 1) (flatF s.fixs ++ [.int .i64 f.pl, .int .i64 f.kind, .int .i64 f.to, .int .i64 f.add])) (hg : W.grownBy W' (Value.slice a2 s.fixs.length c2).ownBlock)
    (hc : s.fixs.length ≤ 3) (hf : f.small) :
    ∃ b2 d2, v = .slice b2 (s.fixs.length + 1) d2 ∧ W'.cell? ⟨gs, 5, none⟩ = some (.slice a2 s.fixs.length c2) ∧ W'.frozen? ⟨gs, 5, none⟩ = false ∧ DS w (W'.setCell ⟨gs, 5, none⟩ v) B g gs P { s with fixs := s.fixs ++ [f] } a1 c1 b2 d2 := by
  have hB := d.rd.1
  have hh := d.high
  have hrow : ∀ k, (Value.slice a2 s.fixs.length c2).ownBlock = some k → w.heap.size ≤ k := fun k hk => (d.own2.lt k hk).1
  have ne : ∀ {b : Nat} {T : TypeId} {cs : Array Value}, Has W b T cs → 55 ≠ T → some b ≠ (Value.slice a2 s.fixs.length c2).ownBlock := fun hb hT e => by
    rcases row_apart d.own2 hb hT with h | h
    · rw [h] at e; cases e
    · exact h e.symm
  have hsec : Has W' gs 52 _ := d.sec.grown hg (ne d.sec (by decide))
  have hg2 : W'.grownBy (W'.setCell ⟨gs, 5, none⟩ v) (some gs) := only_put' (g := gs) 5 v
  have hgr : w.grownBy (W'.setCell ⟨gs, 5, none⟩ v) (some g) := by
    refine ⟨hg2.os.trans (hg.os.trans d.grown.os), hg2.tape.trans (hg.tape.trans d.grown.tape), hg2.output.trans (hg.output.trans d.grown.output), Nat.le_trans d.grown.size (Nat.le_trans hg.size hg2.size), fun i hi hne => ?_⟩
    have h1 := Nat.lt_of_lt_of_le hi d.grown.size
    have h2 := Nat.lt_of_lt_of_le h1 hg.size
    exact (hg2.block i h2 (fun e => by injection e with e; omega)).trans ((hg.block i h1 (fun e => by have := hrow i e.symm; omega)).trans (d.grown.block i hi hne))
  have hap1 : (Value.slice a1 s.bytes.length c1).ownBlock = none ∨ (Value.slice a1 s.bytes.length c1).ownBlock ≠ (Value.slice a2 s.fixs.length c2).ownBlock := by
    rcases d.own1.2 with ⟨e, _⟩ | ⟨k, cap, cur, e, _, hk, _⟩
    · rw [e]; exact .inl rfl
    · refine .inr fun e2 => ?_
      have hk' : Has W k 5 cur := hk
      rw [e] at e2
      exact ne hk' (by decide) (by simpa [Value.ownBlock] using e2)
  have hrd : Rd W' B g P := d.rd.grown hg (fun k hk => by have := hrow k hk; omega)
  have hv : ∃ b2 d2, v = .slice b2 (s.fixs.length + 1) d2 := by
    rcases ho.2 with ⟨_, h0⟩ | ⟨k, cap, cur, e, _⟩
    · omega
    · exact ⟨_, _, e⟩
  obtain ⟨b2, d2, rfl⟩ := hv
  have hlen : (s.fixs ++ [f]).length = s.fixs.length + 1 := by simp
  refine ⟨b2, d2, rfl, hsec.cell 5, hsec.free 5, ⟨hrd.grown hg2 (fun j hj => by injection hj with hj; omega), hgr, (d.res.grown hg (ne d.res (by decide))).away (p := ⟨gs, 5, none⟩) (by show _ ≠ gs; omega) _, hh, ?_, ?_, ?_, ?_⟩⟩
  · show Has _ gs _ #[_, _, _, _, _, .slice b2 (s.fixs ++ [f]).length d2]
    rw [hlen]; exact hsec.put 5 _
  · exact (d.own1.kept hg hap1).kept hg2 (row_apart (d.own1.kept hg hap1) hsec (by decide))
  · show World.ownsRow _ _ _ _ (.slice b2 (s.fixs ++ [f]).length d2) (s.fixs ++ [f]).length (flatF (s.fixs ++ [f]))
    rw [hlen, flatF_snoc]; exact ho.kept hg2 (row_apart ho hsec (by decide))
  · exact ⟨d.small.name, d.small.kind0, d.small.kind1, d.small.align0, d.small.align1, d.small.size0, d.small.size1, d.small.bytes, d.small.wf, by show (s.fixs ++ [f]).length ≤ 4; rw [hlen]; omega, fun x hx => by
      rcases List.mem_append.1 hx with h | h
      · exact d.small.fixs x h
      · simp only [List.mem_singleton] at h; rw [h]; exact hf⟩
end
def IsFx (v : Value) : Prop := ∃ f : Fx, f.small ∧ v = .agg #[.int .i64 f.pl, .int .i64 f.kind, .int .i64 f.to, .int .i64 f.add]
def RowFx (g : Nat) (W : World) (v : Value) : Prop := ∃ (b : Nat) (f : Fx), f.small ∧ g < b ∧ v = .slice (some ⟨b, 0, none⟩) 1 1 ∧ Has W b 55 #[.int .i64 f.pl, .int .i64 f.kind, .int .i64 f.to, .int .i64 f.add]
def MidFx (w : World) (B g gs : Nat) (P : Int) (s : Sx) (a1 : Option Addr) (c1 : Nat) (a2 : Option Addr) (c2 : Nat) (W : World) (v : Value) : Prop :=
  ∃ (b2 : Option Addr) (d2 : Nat) (f : Fx), v = .slice b2 (s.fixs.length + 1) d2 ∧ W.cell? ⟨gs, 5, none⟩ = some (.slice a2 s.fixs.length c2) ∧ W.frozen? ⟨gs, 5, none⟩ = false ∧ DS w (W.setCell ⟨gs, 5, none⟩ v) B g gs P { s with fixs := s.fixs ++ [f] } a1 c1 b2 d2
def fxTys (g gs : Nat) (many : Int) (row : Value) : List Ty := [.val (.pointer (some ⟨gs, 5, none⟩)), .val row, .val (.int .i64 many), .lits 3 (-1) 7, .val (.pointer (some ⟨g, 0, none⟩)), .int 0 3, .cell (-1) 7, .int (-1) 7, .lits 2 0 1002, .val (.pointer (some ⟨g, 0, none⟩)), .int 0 2, .cell 0 1002, .int 0 1002, .any, .any, .any, .val (.pointer (some ⟨gs, 5, none⟩)), .any]
def FxR (w : World) (B g gs : Nat) (P : Int) (s : Sx) (a1 : Option Addr) (c1 : Nat) (a2 : Option Addr) (c2 : Nat) (many : Int) (j : Nat) (W : World) (v : Value) : Prop :=
  if j = 13 then IsFx v else if j = 14 then RowFx g W v else if j = 15 then MidFx w B g gs P s a1 c1 a2 c2 W v else Typed g (fxTys g gs many (.slice a2 s.fixs.length c2)) j W v
def FxJ (w : World) (B g gs : Nat) (P : Int) (s : Sx) (a1 : Option Addr) (c1 : Nat) (a2 : Option Addr) (c2 : Nat) (D : Nat → Prop) (W : World) : Prop :=
  (¬ D 15 → (¬ D 5 → DS w W B g gs P s a1 c1 a2 c2) ∧ (¬ D 10 → DS w W B g gs (P + 1) s a1 c1 a2 c2) ∧ DS w W B g gs (P + 2) s a1 c1 a2 c2) ∧
  (D 17 → ∃ (s' : Sx) (b2 : Option Addr) (d2 : Nat), DS w W B g gs (P + 2) s' a1 c1 b2 d2)
section
variable {w W W' : World} {B g gs : Nat} {P : Int} {s : Sx} {a1 : Option Addr} {c1 : Nat} {a2 : Option Addr} {c2 : Nat} {many : Int} {D : Nat → Prop}
theorem FxJ.keep (h : FxJ w B g gs P s a1 c1 a2 c2 D W) (i : Nat) (hi : i ≠ 5 ∧ i ≠ 10 ∧ i ≠ 15 ∧ i ≠ 17) (h17 : ¬ D 17) (hk : ∀ Q, DS w W B g gs Q s a1 c1 a2 c2 → DS w W' B g gs Q s a1 c1 a2 c2) :
    FxJ w B g gs P s a1 c1 a2 c2 (fun u => u = i ∨ D u) W' := by
  refine ⟨fun h15 => ?_, fun h => ?_⟩
  · obtain ⟨k1, k2, k3⟩ := h.1 (fun d => h15 (.inr d))
    exact ⟨fun d => hk _ (k1 fun e => d (.inr e)), fun d => hk _ (k2 fun e => d (.inr e)), hk _ k3⟩
  · rcases h with h | h
    · exact absurd h.symm hi.2.2.2
    · exact absurd h h17
theorem FxR.of {j : Nat} {v : Value} (h : Typed g (fxTys g gs many (.slice a2 s.fixs.length c2)) j W v) (hj : j ≠ 13 ∧ j ≠ 14 ∧ j ≠ 15) : FxR w B g gs P s a1 c1 a2 c2 many j W v := by
  unfold FxR; rwa [if_neg hj.1, if_neg hj.2.1, if_neg hj.2.2]
theorem FxR.grown {j : Nat} {v : Value} (h : FxR w B g gs P s a1 c1 a2 c2 many j W v) (hj : j ≠ 15) (hg : W.grownBy W' (some g)) : FxR w B g gs P s a1 c1 a2 c2 many j W' v := by
  unfold FxR at h ⊢
  by_cases e1 : j = 13
  · rw [if_pos e1] at h ⊢; exact h
  rw [if_neg e1] at h ⊢
  by_cases e2 : j = 14
  · rw [if_pos e2] at h ⊢
    obtain ⟨b, f, h1, h2, h3, h4⟩ := h
    exact ⟨b, f, h1, h2, h3, h4.grown hg (fun e => by injection e with e; omega)⟩
  rw [if_neg e2, if_neg hj] at h ⊢
  exact Typed.grown hg j v h
end
end Go.Proofs.YtpfombelhajmlaaGreatDoor

/-
  A tree of ends in memory: a node is a block with a map, which leads to the nodes of the longer ends.
-/
import Derived.Test.YtdaddhliedocaaaRows
import Derived.Test.YtdaddhliedocaaaMem
import Derived.Maps.OwnSet
import Derived.Maps.AppendAt
import Derived.Carry
namespace Go.Proofs.Ytdaddhliedocaaa
open Go.RowKit Go.Maps

/-- How a pointer to a block reads. -/
def ptrElem (v : Value) : Option (DataW Unit × List MemPlace) :=
  match v with
  | .pointer none => some (.lit (.int .i64 (-1)), [])
  | .pointer (some ⟨b, 0, none⟩) => some (.lit (.int .i64 (b : Int)), [])
  | _ => none
theorem ptrElem_mk (b : Nat) : ptrElem (.pointer (some ⟨b, 0, none⟩)) = some (.lit (.int .i64 (b : Int)), []) := rfl
theorem ptrElem_nil {v : Value} {ps : List MemPlace} (h : ptrElem v = some (.lit (.int .i64 (-1)), ps)) : v = .pointer none := by
  unfold ptrElem at h
  split at h
  · rfl
  · simp only [Option.some.injEq, Prod.mk.injEq, DataW.lit.injEq, Lit.int.injEq, true_and] at h
    exfalso; omega
  · cases h
theorem ptrElem_inv {v : Value} {b : Nat} {ps : List MemPlace} (h : ptrElem v = some (.lit (.int .i64 (b : Int)), ps)) : v = .pointer (some ⟨b, 0, none⟩) := by
  unfold ptrElem at h
  split at h
  · simp only [Option.some.injEq, Prod.mk.injEq, DataW.lit.injEq, Lit.int.injEq, true_and] at h
    exfalso; omega
  · simp only [Option.some.injEq, Prod.mk.injEq, DataW.lit.injEq, Lit.int.injEq, true_and, Int.natCast_inj] at h
    rw [h.1]
  · cases h
/-- The key of a byte. -/
def klOf (c : UInt8) : Lit := .int .u8 (c.toNat : Int)
theorem klOf_wf (c : UInt8) : (klOf c).wf = true := by
  have := c.toNat_lt
  exact wf_u8.mpr ⟨by omega, by omega⟩
theorem klOf_ne {c d : UInt8} (h : c ≠ d) : klOf c ≠ klOf d := by
  intro e
  apply h
  unfold klOf at e
  simp only [Lit.int.injEq, true_and, Int.natCast_inj] at e
  exact UInt8.toNat_inj.1 e
theorem Try.law_u8 : Keyed Try.prog 5 := int_keyed Try.underlying5
theorem keyOf_byte (c : UInt8) : keyOf Try.prog 5 (.int .u8 (c.toNat : Int)) = some (klOf c) := keyOf_int_mk Try.underlying5 (klOf_wf c)
theorem klOf_key (c : UInt8) : WideAt.IsKeyLit (klOf c) := trivial

structure Node (w : World) (B b m cnt : Nat) (D : DataW Unit) : Prop where
  cell : w.cell? ⟨b, 0, none⟩ = some (.map (some m))
  lob : B ≤ b
  lom : B ≤ m
  own : w.ownsMap Try.prog 5 ptrElem m cnt D
/-- What a node's map holds, by the nodes that there are. -/
structure Kids (D : DataW Unit) (N : List UInt8 → Option Nat) (p : List UInt8) : Prop where
  has : ∀ c, Maps.has D (klOf c) = (N (c :: p)).isSome
  at_ : ∀ c b, N (c :: p) = some b → ∀ z, D.atKey (klOf c) z = .lit (.int .i64 (b : Int))
  size : Maps.size D = 0 ↔ ∀ c, N (c :: p) = none
structure Trie (w : World) (B cnt : Nat) (N : List UInt8 → Option Nat) : Prop where
  low : B ≤ w.heap.size
  node : ∀ p b, N p = some b → ∃ m D, Node w B b m cnt D ∧ Kids D N p
  apart : ∀ p q b b' m, N p = some b → N q = some b' → w.cell? ⟨b, 0, none⟩ = some (.map (some m)) → w.cell? ⟨b', 0, none⟩ = some (.map (some m)) → p = q
  closed : ∀ c p, (N (c :: p)).isSome = true → (N p).isSome = true
section
variable {w w' : World} {B cnt : Nat} {N : List UInt8 → Option Nat}
theorem Trie.drewN (h : Trie w B cnt N) (n : Nat) : Trie (w.drewN n) B cnt N :=
  ⟨h.low, fun p b hp => let ⟨m, D, a, k⟩ := h.node p b hp; ⟨m, D, ⟨a.cell, a.lob, a.lom, a.own⟩, k⟩, h.apart, h.closed⟩
theorem Trie.more (h : Trie w B cnt N) {cnt' : Nat} (hc : cnt ≤ cnt') : Trie w B cnt' N :=
  ⟨h.low, fun p b hp => let ⟨m, D, a, k⟩ := h.node p b hp; ⟨m, D, ⟨a.cell, a.lob, a.lom, a.own.mono hc⟩, k⟩, h.apart, h.closed⟩
theorem cell_lt {w : World} {a : Addr} {v : Value} (h : w.cell? a = some v) : a.block < w.heap.size := by
  rcases Nat.lt_or_ge a.block w.heap.size with h1 | h1
  · exact h1
  · exfalso
    unfold World.cell? at h
    rw [Array.getElem?_eq_none h1] at h
    cases h
/-- Nothing of it turns where no old block does. -/
theorem Trie.kept (h : Trie w B cnt N) (hg : w.grownBy w' none) : Trie w' B cnt N := by
  have hcell : ∀ p b, N p = some b → w'.cell? ⟨b, 0, none⟩ = w.cell? ⟨b, 0, none⟩ := fun p b hp => by
    obtain ⟨m, D, a, k⟩ := h.node p b hp
    exact World.cell?_of_block (hg.block b (cell_lt a.cell) (by simp))
  refine ⟨Nat.le_trans h.low hg.size, fun p b hp => ?_, fun p q b b' m hp hq h1 h2 => ?_, h.closed⟩
  · obtain ⟨m, D, a, k⟩ := h.node p b hp
    exact ⟨m, D, ⟨(hcell p b hp).trans a.cell, a.lob, a.lom, a.own.kept hg (by simp)⟩, k⟩
  · exact h.apart p q b b' m hp hq ((hcell p b hp).symm.trans h1) ((hcell q b' hq).symm.trans h2)
theorem zero_ptr (w : World) : (zeroValue 54).run Try.prog w = .ok (.pointer none) w := by kernel_rfl
/-- What a look into a node's map finds. -/
theorem Trie.look (h : Trie w B cnt N) {p : List UInt8} {b : Nat} (hp : N p = some b) : ∃ m, w.cell? ⟨b, 0, none⟩ = some (.map (some m)) ∧
    (∀ c b', N (c :: p) = some b' → ∀ n, (Instr.lookup 67 (.map (some m)) (.int .u8 (c.toNat : Int)) true).run Try.prog (w.drewN n) = .ok (.tuple #[.pointer (some ⟨b', 0, none⟩), .bool true]) (w.drewN n)) ∧
    (∀ c, N (c :: p) = none → ∀ n, (Instr.lookup 67 (.map (some m)) (.int .u8 (c.toNat : Int)) true).run Try.prog (w.drewN n) = .ok (.tuple #[.pointer none, .bool false]) (w.drewN n)) := by
  obtain ⟨m, D, a, k⟩ := h.node p b hp
  refine ⟨m, a.cell, fun c b' hc n => ?_, fun c hc n => ?_⟩
  · have hown : (w.drewN n).ownsMap Try.prog 5 ptrElem m cnt D := a.own
    obtain ⟨v, ps, hrun, hv⟩ := hown.look_ok Try.law_u8 Try.underlying67 (zero_ptr _) (zd := .lit (.int .i64 (-1))) (zp := []) rfl (keyOf_byte c)
    rw [k.at_ c b' hc] at hv
    rw [k.has c, hc, ptrElem_inv hv] at hrun
    exact hrun
  · have hown : (w.drewN n).ownsMap Try.prog 5 ptrElem m cnt D := a.own
    obtain ⟨v, ps, hrun, hv⟩ := hown.look_ok Try.law_u8 Try.underlying67 (zero_ptr _) (zd := .lit (.int .i64 (-1))) (zp := []) rfl (keyOf_byte c)
    rw [atKey_of_not_has (by rw [k.has c, hc]; rfl)] at hv
    rw [k.has c, hc, ptrElem_nil hv] at hrun
    exact hrun
/-- A node more. -/
def putN (N : List UInt8 → Option Nat) (q : List UInt8) (b : Nat) : List UInt8 → Option Nat := fun r => if r = q then some b else N r
theorem putN_same (N : List UInt8 → Option Nat) (q : List UInt8) (b : Nat) : putN N q b q = some b := if_pos rfl
theorem putN_other {N : List UInt8 → Option Nat} {q r : List UInt8} {b : Nat} (h : r ≠ q) : putN N q b r = N r := if_neg h
theorem putN_old {N : List UInt8 → Option Nat} {q r : List UInt8} {b x : Nat} (hq : N q = none) (h : N r = some x) : putN N q b r = some x := by
  rw [putN_other (by rintro rfl; rw [hq] at h; cases h), h]
/-- The world with a new node. -/
def newNode (w : World) : World := (w.alloc (.map #[] 0)).alloc (.cells #[.map (some w.heap.size)] 69)
theorem size_alloc (w : World) (o : Obj) : (w.alloc o).heap.size = w.heap.size + 1 := by simp
theorem newNode_size (w : World) : (newNode w).heap.size = w.heap.size + 2 := by unfold newNode; rw [size_alloc, size_alloc]
theorem newNode_grown (w : World) : w.grownBy (newNode w) none := (World.grownBy_alloc w _ none).trans (World.grownBy_alloc _ _ none)
theorem newNode_cell (w : World) : (newNode w).cell? ⟨w.heap.size + 1, 0, none⟩ = some (.map (some w.heap.size)) := by
  have e : (newNode w).heap[w.heap.size + 1]? = some (.cells #[.map (some w.heap.size)] 69 (0, 0)) := by
    have := (MapKept.heap_alloc (w.alloc (.map #[] 0)) (.cells #[.map (some w.heap.size)] 69)).1
    rw [size_alloc] at this
    exact this
  unfold World.cell?
  rw [e]
  rfl
theorem newNode_own (w : World) (n : Nat) : (newNode w).ownsMap Try.prog 5 ptrElem w.heap.size n (.map []) :=
  ((World.ownsMap_made w Try.prog 5 ptrElem).alloc _).mono (Nat.zero_le _)
theorem newNode_below (w : World) (B : Nat) (hB : B ≤ w.heap.size) : Below B w (newNode w) := (((Below.refl B w).alloc hB _).alloc (by rw [size_alloc]; omega) _)
theorem Trie.put (h : Trie w B cnt N) {p : List UInt8} {b m : Nat} {c : UInt8} (hp : N p = some b) (hc : N (c :: p) = none) (hcnt : cnt < maxLen) (hm : w.cell? ⟨b, 0, none⟩ = some (.map (some m))) :
    ∃ w2, (Instr.mapUpdate 67 (.map (some m)) (.int .u8 (c.toNat : Int)) (.pointer (some ⟨w.heap.size + 1, 0, none⟩))).run Try.prog (newNode w).drew = .ok () w2 ∧
      Trie w2 B (cnt + 1) (putN N (c :: p) (w.heap.size + 1)) ∧ Below B w w2 := by
  have h1 := h.kept (newNode_grown w)
  obtain ⟨m', D, a, k⟩ := h1.node p b hp
  have hbl := cell_lt hm
  have hmm : m' = m := by
    have e := a.cell
    rw [World.cell?_of_block ((newNode_grown w).block b hbl (by simp)), hm] at e
    injection e with e; injection e with e; injection e with e; exact e.symm
  subst hmm
  have hmlt : m' < w.heap.size := by
    obtain ⟨m2, D2, a2, _⟩ := h.node p b hp
    have e := a2.cell
    rw [hm] at e
    injection e with e; injection e with e; injection e with e
    subst e; exact a2.own.lt
  have hown : (newNode w).drew.ownsMap Try.prog 5 ptrElem m' cnt D := a.own
  obtain ⟨w2, hrun, ho2, hg2⟩ := hown.update Try.law_u8 Try.underlying67 hcnt (keyOf_byte c) (ptrElem_mk (w.heap.size + 1))
  have hg2' : (newNode w).grownBy w2 (some m') := ⟨hg2.os, hg2.tape, hg2.output, hg2.size, hg2.block⟩
  have hsz := newNode_size w
  -- the cells of the nodes stay
  have hmc : (newNode w).cell? ⟨m', 0, none⟩ = none := by
    obtain ⟨es, clock, hb, _⟩ := a.own
    unfold World.cell?; rw [hb]
  have hcell : ∀ x, (newNode w).cell? ⟨x, 0, none⟩ ≠ none → w2.cell? ⟨x, 0, none⟩ = (newNode w).cell? ⟨x, 0, none⟩ := fun x hx => by
    have hlt : x < (newNode w).heap.size := by
      cases e : (newNode w).cell? ⟨x, 0, none⟩ with
      | none => exact absurd e hx
      | some v => exact cell_lt e
    exact World.cell?_of_block (hg2'.block x hlt (fun e => by injection e with e; rw [e] at hx; exact hx hmc))
  have hnew : w2.cell? ⟨w.heap.size + 1, 0, none⟩ = some (.map (some w.heap.size)) := by
    rw [hcell _ (by rw [newNode_cell]; simp), newNode_cell]
  have hold : ∀ q x, N q = some x → w2.cell? ⟨x, 0, none⟩ = (newNode w).cell? ⟨x, 0, none⟩ := fun q x hq => by
    obtain ⟨m1, D1, a1, _⟩ := h1.node q x hq
    exact hcell x (by rw [a1.cell]; simp)
  have hne : ∀ r : List UInt8, N r ≠ none → r ≠ c :: p := fun r hr e => hr (e ▸ hc)
  -- nothing hangs below the new node
  have hleaf : ∀ d, N (d :: c :: p) = none := fun d => by
    cases e : N (d :: c :: p) with
    | none => rfl
    | some x => exfalso; have := h.closed d (c :: p) (by rw [e]; rfl); rw [hc] at this; cases this
  refine ⟨w2, hrun, ⟨?_, ?_, ?_, ?_⟩, ?_⟩
  · exact Nat.le_trans h1.low hg2'.size
  · intro q x hq
    by_cases e : q = c :: p
    · subst e
      rw [putN_same] at hq; injection hq with hq; subst hq
      refine ⟨w.heap.size, .map [], ⟨hnew, by have := h.low; omega, h.low, (newNode_own w (cnt + 1)).kept hg2' (fun e => by injection e with e; omega)⟩, ?_, ?_, ?_⟩
      · intro d
        rw [putN_other (by intro e; have := congrArg List.length e; simp at this), hleaf d]; rfl
      · intro d x hx
        rw [putN_other (by intro e; have := congrArg List.length e; simp at this), hleaf d] at hx; cases hx
      · refine ⟨fun _ d => ?_, fun _ => rfl⟩
        rw [putN_other (by intro e; have := congrArg List.length e; simp at this), hleaf d]
    · rw [putN_other e] at hq
      by_cases eq : q = p
      · subst eq
        rw [hp] at hq; injection hq with hq; subst hq
        have hTidy := a.own.tidy Try.law_u8
        have hhas : Maps.has D (klOf c) = false := by rw [k.has c, hc]; rfl
        refine ⟨m', D.put (klOf c) (.lit (.int .i64 ((w.heap.size + 1 : Nat) : Int))), ⟨(hold _ _ hp).trans a.cell, a.lob, a.lom, ho2⟩, ?_, ?_, ?_⟩
        · intro d
          by_cases ed : d = c
          · subst ed; rw [has_put_same hTidy.isMap (klOf_key _), putN_same]; rfl
          · rw [has_put_other (klOf_ne ed), k.has d, putN_other (by simp [ed])]
        · intro d x hx z
          by_cases ed : d = c
          · subst ed; rw [putN_same] at hx; injection hx with hx; subst hx
            rw [atKey_put_same hTidy.isMap (klOf_key _)]
          · rw [putN_other (by simp [ed])] at hx
            rw [atKey_put_other (klOf_ne ed), k.at_ d x hx]
        · rw [size_put hTidy, hhas]
          constructor
          · intro e; simp at e
          · intro e; have := e c; rw [putN_same] at this; cases this
      · obtain ⟨m1, D1, a1, k1⟩ := h1.node q x hq
        have hm1 : m1 ≠ m' := fun e => eq (h1.apart q p x b m' hq hp (e ▸ a1.cell) a.cell)
        have hk : ∀ d, putN N (c :: p) (w.heap.size + 1) (d :: q) = N (d :: q) := fun d => putN_other (by intro e; injection e with _ e; exact eq e)
        refine ⟨m1, D1, ⟨(hold _ _ hq).trans a1.cell, a1.lob, a1.lom, (a1.own.kept hg2' (fun e => by injection e with e; exact hm1 e)).mono (Nat.le_succ _)⟩, ?_, ?_, ?_⟩
        · intro d; rw [hk d]; exact k1.has d
        · intro d x hx; rw [hk d] at hx; exact k1.at_ d x hx
        · rw [k1.size]; exact forall_congr' fun d => by rw [hk d]
  · have hfresh : ∀ q x, N q = some x → w2.cell? ⟨x, 0, none⟩ ≠ some (.map (some w.heap.size)) := fun q x hq e => by
      obtain ⟨m1, D1, a1, _⟩ := h.node q x hq
      rw [hold q x hq, World.cell?_of_block ((newNode_grown w).block x (cell_lt a1.cell) (by simp)), a1.cell] at e
      injection e with e; injection e with e; injection e with e
      have := a1.own.lt
      omega
    intro q r x y m1 hq hr e1 e2
    by_cases eq : q = c :: p
    · by_cases er : r = c :: p
      · rw [eq, er]
      · exfalso
        rw [eq, putN_same] at hq; injection hq with hq; subst hq
        rw [putN_other er] at hr
        rw [hnew] at e1; injection e1 with e1; injection e1 with e1; injection e1 with e1; subst e1
        exact hfresh r y hr e2
    · rw [putN_other eq] at hq
      by_cases er : r = c :: p
      · exfalso
        rw [er, putN_same] at hr; injection hr with hr; subst hr
        rw [hnew] at e2; injection e2 with e2; injection e2 with e2; injection e2 with e2; subst e2
        exact hfresh q x hq e1
      · rw [putN_other er] at hr
        rw [hold q x hq] at e1; rw [hold r y hr] at e2
        exact h1.apart q r x y m1 hq hr e1 e2
  · intro d q hq
    by_cases e : d :: q = c :: p
    · injection e with _ e
      subst e
      rw [putN_other (by intro e; have := congrArg List.length e; simp at this), hp]; rfl
    · rw [putN_other e] at hq
      have := h.closed d q hq
      by_cases e2 : q = c :: p
      · subst e2; rw [putN_same]; rfl
      · rw [putN_other e2]; exact this
  · exact (newNode_below w B h.low).grown hg2' (by rw [hsz]; have := h.low; omega) (fun j hj => by injection hj with hj; subst hj; exact a.lom)
end

end Go.Proofs.Ytdaddhliedocaaa

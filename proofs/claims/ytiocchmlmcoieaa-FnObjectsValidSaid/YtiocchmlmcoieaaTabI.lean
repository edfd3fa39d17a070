/-
  Contracts of impl.isDigit, impl.isNameByte and impl.NameValid. A tree of ends in memory: a node is a block with a map, which leads to the nodes of the longer ends. Contracts of the tree of ends of the program: newEndTree, add, isWhole. Contracts of impl.namesValid and impl.endsOf. Contract of impl.sortedNames. Contract of impl.NameTable. What is wanted of the program's functions of chapter 2; each is a text's own, and proved of the code elsewhere. What is wanted of impl.NameTable stands.
-/
import Derived.Maps.OwnSet
import Derived.Maps.AppendAt
import Derived.Carry
import Derived.Deep.QuietTactic
import Derived.BigQuiet
import Derived.RegionTactic
import Derived.Sort.OwnSorted
import Derived.Lib.AppendStr
import Derived.Test.YtiocchmlmcoieaaMem
import Derived.Test.YtiocchmlmcoieaaRows
import Derived.Test.YtiocchmlmcoieaaRegion
import Derived.Test.YtiocchmlmcoieaaSortP
import Derived.Test.YtiocchmlmcoieaaShelf
import Derived.Test.YtiocchmlmcoieaaTableS
import Derived.Test.YtiocchmlmcoieaaFoundP
/- Contracts of impl.isDigit, impl.isNameByte and impl.NameValid. -/
namespace Go.Proofs.Ytiocchmlmcoieaa
open Go.RowKit

theorem isDigit_any (c : Int) (h0 : 0 ≤ c) (h1 : c < 256) (w : World) :
    Calls Try.prog 95 #[.int .u8 c] w fun e w' => e = .returned (.bool (digitC c.toNat)) ∧ w = w' := by
  have hd : digitC c.toNat = (decide (48 ≤ c) && decide (c ≤ 57)) := by
    unfold digitC; rw [Bool.eq_iff_iff]; simp; omega
  rw [hd]; clear hd
  by_cases a : 48 ≤ c
  · by_cases b : c ≤ 57
    · go_enter Try.func95, Try.ntmps95
      go_wp2
      go_ret
      exact ⟨ret_bool (by simp [a, b]), rfl⟩
    · go_enter Try.func95, Try.ntmps95
      go_wp2
      go_ret
      exact ⟨ret_bool (by simp [b]), rfl⟩
  · go_enter Try.func95, Try.ntmps95
    go_wp2
    go_ret
    exact ⟨ret_bool (by simp; omega), rfl⟩
theorem isNameByte_any (c : Int) (h0 : 0 ≤ c) (h1 : c < 256) (w : World) :
    Calls Try.prog 96 #[.int .u8 c] w fun e w' => e = .returned (.bool (letterC c.toNat || digitC c.toNat)) ∧ w = w' := by
  have hd : (letterC c.toNat || digitC c.toNat) = (decide (97 ≤ c ∧ c ≤ 122) || decide (48 ≤ c ∧ c ≤ 57) || decide (c = 95) || decide (c = 46)) := by
    unfold letterC digitC; rw [Bool.eq_iff_iff]; simp; omega
  have hg : digitC c.toNat = decide (48 ≤ c ∧ c ≤ 57) := by unfold digitC; rw [Bool.eq_iff_iff]; simp; omega
  have HD := hidden hd
  clear hd
  rcases (show (97 ≤ c ∧ c ≤ 122) ∨ c = 95 ∨ c = 46 ∨ (48 ≤ c ∧ c ≤ 57) ∨ (c < 97 ∧ ¬ (48 ≤ c ∧ c ≤ 57) ∧ c ≠ 95 ∧ c ≠ 46) ∨ 122 < c by omega) with ⟨g, g'⟩ | rfl | rfl | ⟨g, g'⟩ | ⟨g, g', g2, g3⟩ | g
  · go_enter Try.func96, Try.ntmps96
    go_wp2
    go_ret
    exact ⟨ret_bool (by rw [HD.out]; simp; omega), rfl⟩
  · go_enter Try.func96, Try.ntmps96
    go_wp2_with (go_at_call 95; (with_reducible refine (isDigit_any _ (by omega) (by omega) _).mono ?_); rintro e w' ⟨rfl, rfl⟩)
    go_ret
    exact ⟨rfl, rfl⟩
  · go_enter Try.func96, Try.ntmps96
    go_wp2_with (go_at_call 95; (with_reducible refine (isDigit_any _ (by omega) (by omega) _).mono ?_); rintro e w' ⟨rfl, rfl⟩)
    go_ret
    exact ⟨rfl, rfl⟩
  · have hg' : digitC c.toNat = true := by rw [hg]; simp; omega
    clear hg
    have gl : decide (97 ≤ c) = false := by simp; omega
    go_enter Try.func96, Try.ntmps96
    go_wp2_with (go_at_call 95; (with_reducible refine (isDigit_any _ h0 h1 _).mono ?_); rintro e w' ⟨rfl, rfl⟩)
    go_ret
    exact ⟨ret_bool (by rw [HD.out]; simp; omega), rfl⟩
  · have hg' : digitC c.toNat = false := by rw [hg]; simp; omega
    clear hg
    have gl : decide (97 ≤ c) = false := by simp; omega
    have e95 : (c == 95) = false := by simpa using g2
    have e46 : (c == 46) = false := by simpa using g3
    go_enter Try.func96, Try.ntmps96
    go_wp2_with (go_at_call 95; (with_reducible refine (isDigit_any _ h0 h1 _).mono ?_); rintro e w' ⟨rfl, rfl⟩)
    go_ret
    exact ⟨ret_bool (by rw [HD.out]; simp; omega), rfl⟩
  · have hg' : digitC c.toNat = false := by rw [hg]; simp; omega
    clear hg
    have gl : decide (97 ≤ c) = true := by simp; omega
    have gh : decide (c ≤ 122) = false := by simp; omega
    have e95 : (c == 95) = false := by simp; omega
    have e46 : (c == 46) = false := by simp; omega
    go_enter Try.func96, Try.ntmps96
    go_wp2_with (go_at_call 95; (with_reducible refine (isDigit_any _ h0 h1 _).mono ?_); rintro e w' ⟨rfl, rfl⟩)
    go_ret
    exact ⟨ret_bool (by rw [HD.out]; simp; omega), rfl⟩
set_option maxHeartbeats 1000000 in
theorem nameValid_any (s : ByteArray) (w : World) (hs : s.size ≤ maxLen) :
    Calls Try.prog 92 #[.string s] w fun e w' => e = .returned (.bool (nameOk s.data.toList)) ∧ w = w' := by
  unfold maxLen at hs
  have hlen : s.data.toList.length = s.size := by simp
  have HLN := hidden hlen
  clear hlen
  by_cases q1 : s.size < 1
  · have HN : Hid (nameOk s.data.toList = false) := by show _ = _; unfold nameOk; rw [HLN.out]; simp; omega
    have q1' : (s.size : Int) < 1 := by omega
    go_enter Try.func92, Try.ntmps92
    go_wp2_with fail
    go_ret
    exact ⟨ret_bool HN.out.symm, rfl⟩
  by_cases q2 : 8 < s.size
  · have HN : Hid (nameOk s.data.toList = false) := by show _ = _; unfold nameOk; rw [HLN.out]; simp; omega
    have q1' : ¬ (s.size : Int) < 1 := by omega
    have q2' : 8 < (s.size : Int) := by omega
    go_enter Try.func92, Try.ntmps92
    go_wp2_with fail
    go_ret
    exact ⟨ret_bool HN.out.symm, rfl⟩
  have q1' : ¬ (s.size : Int) < 1 := by omega
  have q2' : ¬ 8 < (s.size : Int) := by omega
  have q0 : 0 < s.size := by omega
  have hb0 := byte_at s 0 q0
  obtain ⟨c0, hc0⟩ : ∃ c : Int, ((s[0].toNat : Nat) : Int) = c := ⟨_, rfl⟩
  have h00 : 0 ≤ c0 := by omega
  have h01 : c0 < 256 := by have := s[0].toNat_lt; omega
  have HC0 : Hid ((s.data.toList.getD 0 0).toNat = c0.toNat) := by show _ = _; rw [hb0, ← hc0]; rfl
  clear hb0
  rcases hd0 : digitC c0.toNat with _ | _
  case true =>
    have HN : Hid (nameOk s.data.toList = false) := nameOk_bad (k := 0) (by rw [HLN.out]; exact q0) (by unfold okAt; rw [HC0.out, hd0]; unfold letterC; unfold digitC at hd0; simp at hd0 ⊢; omega)
    go_enter Try.func92, Try.ntmps92
    go_wp2_with (go_at_call 95; (with_reducible refine (isDigit_any _ h00 h01 _).mono ?_); rintro e w' ⟨rfl, rfl⟩)
    go_ret
    exact ⟨ret_bool HN.out.symm, rfl⟩
  have HD0 := hidden hd0
  go_enter Try.func92, Try.ntmps92
  go_wp2_with (go_at_call 95; (with_reducible refine (isDigit_any _ h00 h01 _).mono ?_); rintro e w' ⟨rfl, rfl⟩)
  clear hd0
  go_loop [19] (fun i => ∃ k : Nat, k ≤ s.size ∧ i = .int .i64 k ∧ Hid (∀ j, j < k → okAt s.data.toList j = true)) (fun i => s.size - (intOf i).toNat)
  case atStart => exact ⟨0, Nat.zero_le _, rfl, hidden (by intro j hj; omega)⟩
  case round =>
    obtain ⟨k, hk, rfl, hall⟩ := hrel
    by_cases hlt : k < s.size
    · have hb := byte_at s k hlt
      obtain ⟨c, hc⟩ : ∃ c : Int, ((s[k].toNat : Nat) : Int) = c := ⟨_, rfl⟩
      have h0 : 0 ≤ c := by omega
      have h1 : c < 256 := by have := s[k].toNat_lt; omega
      have hi : (k : Int) < (s.size : Int) := by omega
      have HC : Hid ((s.data.toList.getD k 0).toNat = c.toNat) := by show _ = _; rw [hb, ← hc]; rfl
      have HO : Hid (okAt s.data.toList k = (letterC c.toNat || digitC c.toNat)) := by
        show _ = _
        unfold okAt
        rw [HC.out]
        by_cases k0 : k = 0
        · subst k0
          have : c.toNat = c0.toNat := by rw [← HC.out, HC0.out]
          rw [this, HD0.out]; simp
        · simp [k0]
      clear hb HC
      rcases ho : (letterC c.toNat || digitC c.toNat) with _ | _
      · have HN : Hid (nameOk s.data.toList = false) := nameOk_bad (k := k) (by rw [HLN.out]; exact hlt) (by rw [HO.out, ho])
        clear hall HO
        go_wp2_with (go_at_call 96; (with_reducible refine (isNameByte_any _ h0 h1 _).mono ?_); rintro e w' ⟨rfl, rfl⟩)
        go_ret
        exact ⟨ret_bool HN.out.symm, rfl⟩
      · have HN : Hid (∀ j, j < k + 1 → okAt s.data.toList j = true) := all_next hall.out (by rw [HO.out, ho])
        clear hall HO
        go_wp2_with (go_at_call 96; (with_reducible refine (isNameByte_any _ h0 h1 _).mono ?_); rintro e w' ⟨rfl, rfl⟩)
        go_round
        case rel => exact ⟨k + 1, by omega, by go_num, HN⟩
        case measure => simp [intOf]; omega
    · have hi : ¬ (k : Int) < (s.size : Int) := by omega
      have HN : Hid (nameOk s.data.toList = true) := by
        show _ = _
        rw [nameOk_all (fun j hj => hall.out j (by rw [HLN.out] at hj; omega)), HLN.out]; simp; omega
      clear hall
      go_wp2
      go_ret
      exact ⟨ret_bool HN.out.symm, rfl⟩

end Go.Proofs.Ytiocchmlmcoieaa
/- A tree of ends in memory: a node is a block with a map, which leads to the nodes of the longer ends. Contracts of the tree of ends of the program: newEndTree, add, isWhole. Contracts of impl.namesValid and impl.endsOf. Contract of impl.sortedNames. Contract of impl.NameTable. -/
/- A tree of ends in memory: a node is a block with a map, which leads to the nodes of the longer ends. -/
namespace Go.Proofs.Ytiocchmlmcoieaa
open Go.RowKit Go.Maps

/-- How a pointer to a block reads. -/
def ptrElem (v : Value) : Option (DataW Unit × List MemPlace) :=
  match v with
  | .pointer none => some (.lit (.int .i64 (-1)), [])
  | .pointer (some ⟨b, 0, none⟩) => some (.lit (.int .i64 (b : Int)), [])
  | _ => none
theorem ptrElem_mk (b : Nat) : ptrElem (.pointer (some ⟨b, 0, none⟩)) = some (.lit (.int .i64 (b : Int)), []) := rfl
theorem ptrElem_nil {v : Value} {ps : List MemPlace} (h : ptrElem v = some (.lit (.int .i64 (-1)), ps)) : v = .pointer none := by
  unfold ptrElem at h
  split at h
  · rfl
  · simp only [Option.some.injEq, Prod.mk.injEq, DataW.lit.injEq, Lit.int.injEq, true_and] at h
    exfalso; omega
  · cases h
theorem ptrElem_inv {v : Value} {b : Nat} {ps : List MemPlace} (h : ptrElem v = some (.lit (.int .i64 (b : Int)), ps)) : v = .pointer (some ⟨b, 0, none⟩) := by
  unfold ptrElem at h
  split at h
  · simp only [Option.some.injEq, Prod.mk.injEq, DataW.lit.injEq, Lit.int.injEq, true_and] at h
    exfalso; omega
  · simp only [Option.some.injEq, Prod.mk.injEq, DataW.lit.injEq, Lit.int.injEq, true_and, Int.natCast_inj] at h
    rw [h.1]
  · cases h
/-- The key of a byte. -/
def klOf (c : UInt8) : Lit := .int .u8 (c.toNat : Int)
theorem klOf_wf (c : UInt8) : (klOf c).wf = true := by
  have := c.toNat_lt
  exact wf_u8.mpr ⟨by omega, by omega⟩
theorem klOf_ne {c d : UInt8} (h : c ≠ d) : klOf c ≠ klOf d := by
  intro e
  apply h
  unfold klOf at e
  simp only [Lit.int.injEq, true_and, Int.natCast_inj] at e
  exact UInt8.toNat_inj.1 e
theorem Try.law_u8 : Keyed Try.prog 5 := int_keyed Try.underlying5
theorem keyOf_byte (c : UInt8) : keyOf Try.prog 5 (.int .u8 (c.toNat : Int)) = some (klOf c) := keyOf_int_mk Try.underlying5 (klOf_wf c)
theorem klOf_key (c : UInt8) : WideAt.IsKeyLit (klOf c) := trivial

structure Node (w : World) (B b m cnt : Nat) (D : DataW Unit) : Prop where
  cell : w.cell? ⟨b, 0, none⟩ = some (.map (some m))
  lob : B ≤ b
  lom : B ≤ m
  own : w.ownsMap Try.prog 5 ptrElem m cnt D
/-- What a node's map holds, by the nodes that there are. -/
structure Kids (D : DataW Unit) (N : List UInt8 → Option Nat) (p : List UInt8) : Prop where
  has : ∀ c, Maps.has D (klOf c) = (N (c :: p)).isSome
  at_ : ∀ c b, N (c :: p) = some b → ∀ z, D.atKey (klOf c) z = .lit (.int .i64 (b : Int))
  size : Maps.size D = 0 ↔ ∀ c, N (c :: p) = none
structure Trie (w : World) (B cnt : Nat) (N : List UInt8 → Option Nat) : Prop where
  low : B ≤ w.heap.size
  node : ∀ p b, N p = some b → ∃ m D, Node w B b m cnt D ∧ Kids D N p
  apart : ∀ p q b b' m, N p = some b → N q = some b' → w.cell? ⟨b, 0, none⟩ = some (.map (some m)) → w.cell? ⟨b', 0, none⟩ = some (.map (some m)) → p = q
  closed : ∀ c p, (N (c :: p)).isSome = true → (N p).isSome = true
section
variable {w w' : World} {B cnt : Nat} {N : List UInt8 → Option Nat}
theorem Trie.drewN (h : Trie w B cnt N) (n : Nat) : Trie (w.drewN n) B cnt N :=
  ⟨h.low, fun p b hp => let ⟨m, D, a, k⟩ := h.node p b hp; ⟨m, D, ⟨a.cell, a.lob, a.lom, a.own⟩, k⟩, h.apart, h.closed⟩
theorem Trie.more (h : Trie w B cnt N) {cnt' : Nat} (hc : cnt ≤ cnt') : Trie w B cnt' N :=
  ⟨h.low, fun p b hp => let ⟨m, D, a, k⟩ := h.node p b hp; ⟨m, D, ⟨a.cell, a.lob, a.lom, a.own.mono hc⟩, k⟩, h.apart, h.closed⟩
theorem cell_lt {w : World} {a : Addr} {v : Value} (h : w.cell? a = some v) : a.block < w.heap.size := by
  rcases Nat.lt_or_ge a.block w.heap.size with h1 | h1
  · exact h1
  · exfalso
    unfold World.cell? at h
    rw [Array.getElem?_eq_none h1] at h
    cases h
/-- Nothing of it turns where no old block does. -/
theorem Trie.kept (h : Trie w B cnt N) (hg : w.grownBy w' none) : Trie w' B cnt N := by
  have hcell : ∀ p b, N p = some b → w'.cell? ⟨b, 0, none⟩ = w.cell? ⟨b, 0, none⟩ := fun p b hp => by
    obtain ⟨m, D, a, k⟩ := h.node p b hp
    exact World.cell?_of_block (hg.block b (cell_lt a.cell) (by simp))
  refine ⟨Nat.le_trans h.low hg.size, fun p b hp => ?_, fun p q b b' m hp hq h1 h2 => ?_, h.closed⟩
  · obtain ⟨m, D, a, k⟩ := h.node p b hp
    exact ⟨m, D, ⟨(hcell p b hp).trans a.cell, a.lob, a.lom, a.own.kept hg (by simp)⟩, k⟩
  · exact h.apart p q b b' m hp hq ((hcell p b hp).symm.trans h1) ((hcell q b' hq).symm.trans h2)

















/-- A node more. -/
def putN (N : List UInt8 → Option Nat) (q : List UInt8) (b : Nat) : List UInt8 → Option Nat := fun r => if r = q then some b else N r
theorem putN_same (N : List UInt8 → Option Nat) (q : List UInt8) (b : Nat) : putN N q b q = some b := if_pos rfl
theorem putN_other {N : List UInt8 → Option Nat} {q r : List UInt8} {b : Nat} (h : r ≠ q) : putN N q b r = N r := if_neg h
theorem putN_old {N : List UInt8 → Option Nat} {q r : List UInt8} {b x : Nat} (hq : N q = none) (h : N r = some x) : putN N q b r = some x := by
  rw [putN_other (by rintro rfl; rw [hq] at h; cases h), h]


theorem size_alloc (w : World) (o : Obj) : (w.alloc o).heap.size = w.heap.size + 1 := by simp




































































































































end

end Go.Proofs.Ytiocchmlmcoieaa
/- Contracts of the tree of ends of the program: newEndTree, add, isWhole. -/
namespace Go.Proofs.Ytiocchmlmcoieaa
open Go.RowKit Go.Maps








theorem drop_byte {s : ByteArray} {k : Nat} (h : k < s.size) : s.data.toList.drop k = s[k] :: s.data.toList.drop (k + 1) := by
  have hl : k < s.data.toList.length := by simpa using h
  rw [List.drop_eq_getElem_cons hl]
  rfl









































































































































































end Go.Proofs.Ytiocchmlmcoieaa
/- Contracts of impl.namesValid and impl.endsOf. -/
namespace Go.Proofs.Ytiocchmlmcoieaa
open Go.RowKit Go.Maps

theorem namesOk_bad {names : List ByteArray} {k : Nat} {x : ByteArray} (hx : names[k]? = some x) (h : nameOk x.data.toList = false) : namesOk names = false := by
  cases hn : namesOk names with
  | false => rfl
  | true =>
    simp only [namesOk, Bool.and_eq_true, List.all_eq_true] at hn
    have := hn.1 x (List.mem_of_getElem? hx)
    rw [h] at this; cases this





































































/-- A tree that has the empty end alone. -/
def rootN (b : Nat) : List UInt8 → Option Nat := fun q => if q = [] then some b else none


























































































end Go.Proofs.Ytiocchmlmcoieaa
/- Contract of impl.sortedNames. -/
namespace Go.Proofs.Ytiocchmlmcoieaa
open Go.RowKit Go.Sort

theorem encStr_data (s : ByteArray) : encStr s.data.toList = .string s := by
  show Value.string (strL s.data.toList) = _
  rw [strL_data]
theorem map_encStr (names : List ByteArray) : (names.map fun s => s.data.toList).map encStr = names.map Value.string := by
  rw [List.map_map]
  exact List.map_congr_left fun s _ => encStr_data s
theorem encStr_strL (l : List (List UInt8)) : l.map encStr = (l.map strL).map Value.string := by
  rw [List.map_map]; rfl
theorem compact_length (zs : List (List UInt8)) : (Lib.compact zs).length ≤ zs.length := by
  unfold Lib.compact Lib.compactUpTo
  rw [List.length_map]
  exact Nat.le_trans (List.length_filter_le _ _) (by simp)
theorem cell_lt' {w : World} {a : Addr} {v : Value} (h : w.cell? a = some v) : a.block < w.heap.size := by
  rcases Nat.lt_or_ge a.block w.heap.size with h1 | h1
  · exact h1
  · exfalso
    unfold World.cell? at h
    rw [Array.getElem?_eq_none h1] at h
    cases h
/-- The slice at address 'a' holds these cells, in a row of texts. -/
def StrRow (w : World) (a : Option Addr) (vs : List Value) : Prop :=
  0 < vs.length → ∃ (b : Nat) (cs : Array Value) (fr : Nat × Nat), a = some ⟨b, 0, none⟩ ∧ w.heap[b]? = some (.cells cs 9 fr) ∧ ∀ (i : Nat) (u : Value), vs[i]? = some u → cs[i]? = some u
section
variable {w w' : World} {a : Option Addr} {vs : List Value}
theorem StrRow.at_ (h : StrRow w a vs) {i : Nat} (hi : i < vs.length) : ∃ b, a = some ⟨b, 0, none⟩ ∧ w.cell? ⟨b, 0 + i, none⟩ = some vs[i] := by
  obtain ⟨b, cs, fr, ha, hb, hc⟩ := h (by omega)
  refine ⟨b, ha, ?_⟩
  unfold World.cell?
  rw [hb, Nat.zero_add]
  exact hc i _ (List.getElem?_eq_getElem hi)
theorem StrRow.drewN (h : StrRow w a vs) (n : Nat) : StrRow (w.drewN n) a vs := h
theorem StrRow.only (h : StrRow w a vs) (hg : w.grownBy w' none) : StrRow w' a vs := fun hn => by
  obtain ⟨b, cs, fr, ha, hb, hc⟩ := h hn
  exact ⟨b, cs, fr, ha, (hg.block b (Array.getElem?_eq_some_iff.1 hb).1 (by simp)).trans hb, hc⟩
/-- What is done to a row of bytes leaves it. -/
theorem StrRow.grown {base n : Nat} {v : Value} {xs : List Value} (h : StrRow w a vs) (ho : w.ownsRow base 5 1 v n xs) (hg : w.grownBy w' v.ownBlock) : StrRow w' a vs := fun hn => by
  obtain ⟨b, cs, fr, ha, hb, hc⟩ := h hn
  refine ⟨b, cs, fr, ha, (hg.block b (Array.getElem?_eq_some_iff.1 hb).1 (fun e => ?_)).trans hb, hc⟩
  rcases ho.2 with ⟨rfl, _⟩ | ⟨g, cap, cur, rfl, _, hh, _⟩
  · simp [Value.ownBlock] at e
  · have eg : b = g := by simpa [Value.ownBlock] using e
    subst eg
    rw [hb] at hh
    injection hh with hh
    injection hh with _ h2
    cases h2
end
/-- What sorting leaves: the sorted names, each once, in memory of its own. -/
def Sorted (w : World) (names : List ByteArray) (e : Ending) (w' : World) : Prop :=
  ∃ (a : Option Addr) (c : Nat), e = .returned (.slice a (names.foldl insertS []).length c) ∧ StrRow w' a ((names.foldl insertS []).map Value.string) ∧ Below w.heap.size w w'
theorem sorted_none {w w' : World} {a : Option Addr} {c : Nat} (h : Below w.heap.size w w') : Sorted w [] (.returned (.slice a 0 c)) w' :=
  ⟨a, c, rfl, fun h0 => by simp at h0, h⟩
theorem below_sorted {w : World} {B g n : Nat} {os : Array Obj} {d : Array (List UInt8)} (hB : B ≤ w.heap.size) (hg : B ≤ g) : Below B w (grow (putRow encStr (Sort.ahead w n) g 0 d) os) :=
  (Below.refl B w).grown (grownBy_sorted d) hB (fun k hk => by injection hk with hk; subst hk; exact hg)
theorem below_putRow {w : World} {B g n : Nat} {d : Array (List UInt8)} (hB : B ≤ w.heap.size) (hg : B ≤ g) : Below B w (putRow encStr (Sort.ahead w n) g 0 d) := by
  have h := below_sorted (n := n) (os := #[]) (d := d) hB hg
  have e : grow (putRow encStr (Sort.ahead w n) g 0 d) #[] = putRow encStr (Sort.ahead w n) g 0 d := by unfold grow; rw [Array.append_empty]
  rw [e] at h; exact h























































































































end Go.Proofs.Ytiocchmlmcoieaa
/- Contract of impl.NameTable. -/
namespace Go.Proofs.Ytiocchmlmcoieaa
open Go.RowKit Go.Lib

theorem grown_none {B : Nat} {w w' : World} (h : Below B w w') (hB : w.heap.size ≤ B) : w.grownBy w' none := ⟨h.os, h.tape, h.output, h.size, fun i hi _ => h.block i (by omega)⟩
theorem strCells_nums (s : ByteArray) : strCells s = (numsOf s).map (Value.int .u8) := by
  unfold strCells numsOf
  rw [List.map_map]; rfl
/-- In the tree of all ends of names a name has no longer end just where no other name ends with it. -/
theorem whole_iff {names : List ByteArray} {N : List UInt8 → Option Nat} (hN : ∀ q, (N q).isSome = true ↔ q = [] ∨ ∃ x ∈ names, q <:+ x.data.toList) (y : ByteArray) :
    (∀ c, N (c :: y.data.toList) = none) ↔ ∀ z ∈ names, endsS z y = true → z = y := by
  constructor
  · intro h z hz he
    obtain ⟨u, hu⟩ := (endsS_iff z y).1 he
    rcases List.eq_nil_or_concat u with rfl | ⟨u', c, rfl⟩
    · rw [List.nil_append] at hu
      exact ByteArray.ext (Array.toList_inj.1 hu.symm)
    · exfalso
      have h1 : (N (c :: y.data.toList)).isSome = true := (hN _).2 (.inr ⟨z, hz, u', by simpa using hu⟩)
      rw [h c] at h1; cases h1
  · intro h c
    cases hc : N (c :: y.data.toList) with
    | none => rfl
    | some b =>
      exfalso
      rcases (hN _).1 (by rw [hc]; rfl) with h1 | ⟨x, hx, hs⟩
      · cases h1
      · obtain ⟨u, hu⟩ := hs
        have e := h x hx ((endsS_iff x y).2 ⟨u ++ [c], by simpa using hu⟩)
        subst e
        have := congrArg List.length hu
        simp at this
        omega
/-- What the program's NameTable leaves: bytes in memory of its own. -/
def TabledO (w : World) (l : List Int) (e : Ending) (w' : World) : Prop :=
  ∃ v, e = .returned v ∧ w'.ownsRow w.heap.size 5 1 v l.length (l.map (Value.int .u8)) ∧ Below w.heap.size w w'
theorem tabledO_none {w w1 : World} (hb : Below w.heap.size w w1) : TabledO w [] (.returned (.slice none 0 0)) w1 :=
  ⟨_, rfl, ⟨rfl, .inl ⟨rfl, rfl⟩⟩, hb⟩
theorem row_lowerT {w : World} {base base' : Nat} {e : TypeId} {size : Nat} {v : Value} {n : Nat} {xs : List Value} (h : w.ownsRow base e size v n xs) (hb : base' ≤ base) : w.ownsRow base' e size v n xs :=
  ⟨h.1, h.2.imp id fun ⟨g, cap, cur, h1, h2, h3⟩ => ⟨g, cap, cur, h1, Nat.le_trans hb h2, h3⟩⟩
theorem TabledO.of {w w2 wr : World} {v : Value} {l l' : List Int} (hown : wr.ownsRow w2.heap.size 5 1 v l.length (l.map (Value.int .u8))) (e : l' = l) (hb : Below w.heap.size w w2) (hbw : Below w2.heap.size w2 wr) : TabledO w l' (.returned v) wr := by
  subst e
  exact ⟨_, rfl, row_lowerT hown hb.size, hb.trans (hbw.mono hb.size)⟩
theorem nameTab_wf (names : List ByteArray) : ∀ x ∈ nameTab names, (Lit.int .u8 x).wf = true := fun x hx => by
  unfold nameTab at hx
  split at hx
  · exact wf_u8.mpr (tabBytes_wf _ _ x hx)
  · cases hx
theorem TabledO.tabled {w : World} {l : List Int} {e : Ending} {w' : World} (h : TabledO w l e w') (hwf : ∀ x ∈ l, (Lit.int .u8 x).wf = true) : Tabled w l e w' := by
  obtain ⟨v, rfl, hown, hb⟩ := h
  obtain ⟨a, c, rfl, hc, hm, hi⟩ := ints_of_own3 hown hwf
  exact ⟨a, c, rfl, hc, hm, hi, hb⟩







































































































































































end Go.Proofs.Ytiocchmlmcoieaa
/- What is wanted of the program's functions of chapter 2; each is a text's own, and proved of the code elsewhere. -/
namespace Go.Proofs.Ytiocchmlmcoieaa
open Go.RowKit

def WantNameValid : Prop := ∀ (w : World) (s : ByteArray), s.size ≤ maxLen → Calls Try.prog 92 #[.string s] w fun e w' => e = .returned (.bool (nameOk s.data.toList)) ∧ Below w.heap.size w w'







end Go.Proofs.Ytiocchmlmcoieaa
/- What is wanted of impl.NameTable stands. -/
namespace Go.Proofs.Ytiocchmlmcoieaa
open Go.RowKit



end Go.Proofs.Ytiocchmlmcoieaa

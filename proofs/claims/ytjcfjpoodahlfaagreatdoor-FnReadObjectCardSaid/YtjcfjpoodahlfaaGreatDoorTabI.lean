import Derived.Maps.OwnSet
import Derived.Maps.AppendAt
import Derived.Carry
import Derived.Deep.QuietTactic
import Derived.BigQuiet
import Derived.RegionTactic
import Derived.Sort.OwnSorted
import Derived.Lib.AppendStr
import Derived.Test.YtjcfjpoodahlfaaGreatDoorShelf
import Derived.Test.YtjcfjpoodahlfaaGreatDoorTableS
import Derived.Test.YtjcfjpoodahlfaaGreatDoorFoundP
namespace Go.Proofs.YtjcfjpoodahlfaaGreatDoor
open Go.RowKit
theorem isDigit_any (c : Int) (h0 : 0 ≤ c) (h1 : c < 256) (w : World) :
    Calls Tryz.prog 119 #[.int .u8 c] w fun e w' => e = .returned (.bool (digitC c.toNat)) ∧ w = w' := by
  have hd : digitC c.toNat = (decide (48 ≤ c) && decide (c ≤ 57)) := by
    unfold digitC; rw [Bool.eq_iff_iff]; simp; omega
  rw [hd]; clear hd
  by_cases a : 48 ≤ c
  · by_cases b : c ≤ 57
    · go_enter Tryz.func119, Tryz.ntmps119
      go_wp2
      go_ret
      exact ⟨ret_bool (by simp [a, b]), rfl⟩
    · go_enter Tryz.func119, Tryz.ntmps119
      go_wp2
      go_ret
      exact ⟨ret_bool (by simp [b]), rfl⟩
  · go_enter Tryz.func119, Tryz.ntmps119
    go_wp2
    go_ret
    exact ⟨ret_bool (by simp; omega), rfl⟩
theorem isNameByte_any (c : Int) (h0 : 0 ≤ c) (h1 : c < 256) (w : World) :
    Calls Tryz.prog 120 #[.int .u8 c] w fun e w' => e = .returned (.bool (letterC c.toNat || digitC c.toNat)) ∧ w = w' := by
  have hd : (letterC c.toNat || digitC c.toNat) = (decide (97 ≤ c ∧ c ≤ 122) || decide (48 ≤ c ∧ c ≤ 57) || decide (c = 95) || decide (c = 46)) := by
    unfold letterC digitC; rw [Bool.eq_iff_iff]; simp; omega
  have hg : digitC c.toNat = decide (48 ≤ c ∧ c ≤ 57) := by unfold digitC; rw [Bool.eq_iff_iff]; simp; omega
  have HD := hidden hd
  clear hd
  rcases (show (97 ≤ c ∧ c ≤ 122) ∨ c = 95 ∨ c = 46 ∨ (48 ≤ c ∧ c ≤ 57) ∨ (c < 97 ∧ ¬ (48 ≤ c ∧ c ≤ 57) ∧ c ≠ 95 ∧ c ≠ 46) ∨ 122 < c by omega) with ⟨g, g'⟩ | rfl | rfl | ⟨g, g'⟩ | ⟨g, g', g2, g3⟩ | g
  · go_enter Tryz.func120, Tryz.ntmps120
    go_wp2
    go_ret
    exact ⟨ret_bool (by rw [HD.out]; simp; omega), rfl⟩
  · go_enter Tryz.func120, Tryz.ntmps120
    go_wp2_with (go_at_call 119; (with_reducible refine (isDigit_any _ (by omega) (by omega) _).mono ?_); rintro e w' ⟨rfl, rfl⟩)
    go_ret
    exact ⟨rfl, rfl⟩
  · go_enter Tryz.func120, Tryz.ntmps120
    go_wp2_with (go_at_call 119; (with_reducible refine (isDigit_any _ (by omega) (by omega) _).mono ?_); rintro e w' ⟨rfl, rfl⟩)
    go_ret
    exact ⟨rfl, rfl⟩
  · have hg' : digitC c.toNat = true := by rw [hg]; simp; omega
    clear hg
    have gl : decide (97 ≤ c) = false := by simp; omega
    go_enter Tryz.func120, Tryz.ntmps120
    go_wp2_with (go_at_call 119; (with_reducible refine (isDigit_any _ h0 h1 _).mono ?_); rintro e w' ⟨rfl, rfl⟩)
    go_ret
    exact ⟨ret_bool (by rw [HD.out]; simp; omega), rfl⟩
  · have hg' : digitC c.toNat = false := by rw [hg]; simp; omega
    clear hg
    have gl : decide (97 ≤ c) = false := by simp; omega
    have e95 : (c == 95) = false := by simpa using g2
    have e46 : (c == 46) = false := by simpa using g3
    go_enter Tryz.func120, Tryz.ntmps120
    go_wp2_with (go_at_call 119; (with_reducible refine (isDigit_any _ h0 h1 _).mono ?_); rintro e w' ⟨rfl, rfl⟩)
    go_ret
    exact ⟨ret_bool (by rw [HD.out]; simp; omega), rfl⟩
  · have hg' : digitC c.toNat = false := by rw [hg]; simp; omega
    clear hg
    have gl : decide (97 ≤ c) = true := by simp; omega
    have gh : decide (c ≤ 122) = false := by simp; omega
    have e95 : (c == 95) = false := by simp; omega
    have e46 : (c == 46) = false := by simp; omega
    go_enter Tryz.func120, Tryz.ntmps120
    go_wp2_with (go_at_call 119; (with_reducible refine (isDigit_any _ h0 h1 _).mono ?_); rintro e w' ⟨rfl, rfl⟩)
    go_ret
    exact ⟨ret_bool (by rw [HD.out]; simp; omega), rfl⟩
set_option maxHeartbeats 1000000 in
theorem nameValid_any (s : ByteArray) (w : World) (hs : s.size ≤ maxLen) :
    Calls Tryz.prog 108 #[.string s] w fun e w' => e = .returned (.bool (nameOk s.data.toList)) ∧ w = w' := by
  unfold maxLen at hs
  have hlen : s.data.toList.length = s.size := by simp
  have HLN := hidden hlen
  clear hlen
  by_cases q1 : s.size < 1
  · have HN : Hid (nameOk s.data.toList = false) := by show _ = _; unfold nameOk; rw [HLN.out]; simp; omega
    have q1' : (s.size : Int) < 1 := by omega
    go_enter Tryz.func108, Tryz.ntmps108
    go_wp2_with fail
    go_ret
    exact ⟨ret_bool HN.out.symm, rfl⟩
  by_cases q2 : 8 < s.size
  · have HN : Hid (nameOk s.data.toList = false) := by show _ = _; unfold nameOk; rw [HLN.out]; simp; omega
    have q1' : ¬ (s.size : Int) < 1 := by omega
    have q2' : 8 < (s.size : Int) := by omega
    go_enter Tryz.func108, Tryz.ntmps108
    go_wp2_with fail
    go_ret
    exact ⟨ret_bool HN.out.symm, rfl⟩
  have q1' : ¬ (s.size : Int) < 1 := by omega
  have q2' : ¬ 8 < (s.size : Int) := by omega
  have q0 : 0 < s.size := by omega
  have hb0 := byte_at s 0 q0
  obtain ⟨c0, hc0⟩ : ∃ c : Int, ((s[0].toNat : Nat) : Int) = c := ⟨_, rfl⟩
  have h00 : 0 ≤ c0 := by omega
  have h01 : c0 < 256 := by have := s[0].toNat_lt; omega
  have HC0 : Hid ((s.data.toList.getD 0 0).toNat = c0.toNat) := by show _ = _; rw [hb0, ← hc0]; rfl
  clear hb0
  rcases hd0 : digitC c0.toNat with _ | _
  case true =>
    have HN : Hid (nameOk s.data.toList = false) := nameOk_bad (k := 0) (by rw [HLN.out]; exact q0) (by unfold okAt; rw [HC0.out, hd0]; unfold letterC; unfold digitC at hd0; simp at hd0 ⊢; omega)
    go_enter Tryz.func108, Tryz.ntmps108
    go_wp2_with (go_at_call 119; (with_reducible refine (isDigit_any _ h00 h01 _).mono ?_); rintro e w' ⟨rfl, rfl⟩)
    go_ret
    exact ⟨ret_bool HN.out.symm, rfl⟩
  have HD0 := hidden hd0
  go_enter Tryz.func108, Tryz.ntmps108
  go_wp2_with (go_at_call 119; (with_reducible refine (isDigit_any _ h00 h01 _).mono ?_); rintro e w' ⟨rfl, rfl⟩)
  clear hd0
  go_loop [19] (fun i => ∃ k : Nat, k ≤ s.size ∧ i = .int .i64 k ∧ Hid (∀ j, j < k → okAt s.data.toList j = true)) (fun i => s.size - (intOf i).toNat)
  case atStart => exact ⟨0, Nat.zero_le _, rfl, hidden (by intro j hj; omega)⟩
  case round =>
    obtain ⟨k, hk, rfl, hall⟩ := hrel
    by_cases hlt : k < s.size
    · have hb := byte_at s k hlt
      obtain ⟨c, hc⟩ : ∃ c : Int, ((s[k].toNat : Nat) : Int) = c := ⟨_, rfl⟩
      have h0 : 0 ≤ c := by omega
      have h1 : c < 256 := by have := s[k].toNat_lt; omega
      have hi : (k : Int) < (s.size : Int) := by omega
      have HC : Hid ((s.data.toList.getD k 0).toNat = c.toNat) := by show _ = _; rw [hb, ← hc]; rfl
      have HO : Hid (okAt s.data.toList k = (letterC c.toNat || digitC c.toNat)) := by
        show _ = _
        unfold okAt
        rw [HC.out]
        by_cases k0 : k = 0
        · subst k0
          have : c.toNat = c0.toNat := by rw [← HC.out, HC0.out]
          rw [this, HD0.out]; simp
        · simp [k0]
      clear hb HC
      rcases ho : (letterC c.toNat || digitC c.toNat) with _ | _
      · have HN : Hid (nameOk s.data.toList = false) := nameOk_bad (k := k) (by rw [HLN.out]; exact hlt) (by rw [HO.out, ho])
        clear hall HO
        go_wp2_with (go_at_call 120; (with_reducible refine (isNameByte_any _ h0 h1 _).mono ?_); rintro e w' ⟨rfl, rfl⟩)
        go_ret
        exact ⟨ret_bool HN.out.symm, rfl⟩
      · have HN : Hid (∀ j, j < k + 1 → okAt s.data.toList j = true) := all_next hall.out (by rw [HO.out, ho])
        clear hall HO
        go_wp2_with (go_at_call 120; (with_reducible refine (isNameByte_any _ h0 h1 _).mono ?_); rintro e w' ⟨rfl, rfl⟩)
        go_round
        case rel => exact ⟨k + 1, by omega, by go_num, HN⟩
        case measure => simp [intOf]; omega
    · have hi : ¬ (k : Int) < (s.size : Int) := by omega
      have HN : Hid (nameOk s.data.toList = true) := by
        show _ = _
        rw [nameOk_all (fun j hj => hall.out j (by rw [HLN.out] at hj; omega)), HLN.out]; simp; omega
      clear hall
      go_wp2
      go_ret
      exact ⟨ret_bool HN.out.symm, rfl⟩
open Go.RowKit Go.Maps
def ptrElem (v : Value) : Option (DataW Unit × List MemPlace) :=
  match v with
  | .pointer none => some (.lit (.int .i64 (-1)), [])
  | .pointer (some ⟨b, 0, none⟩) => some (.lit (.int .i64 (b : Int)), [])
  | _ => none
theorem ptrElem_mk (b : Nat) : ptrElem (.pointer (some ⟨b, 0, none⟩)) = some (.lit (.int .i64 (b : Int)), []) := rfl
theorem ptrElem_nil {v : Value} {ps : List MemPlace} (h : ptrElem v = some (.lit (.int .i64 (-1)), ps)) : v = .pointer none := by
  unfold ptrElem at h
  split at h
  · rfl
  · simp only [Option.some.injEq, Prod.mk.injEq, DataW.lit.injEq, Lit.int.injEq, true_and] at h
    exfalso; omega
  · cases h
theorem ptrElem_inv {v : Value} {b : Nat} {ps : List MemPlace} (h : ptrElem v = some (.lit (.int .i64 (b : Int)), ps)) : v = .pointer (some ⟨b, 0, none⟩) := by
  unfold ptrElem at h
  split at h
  · simp only [Option.some.injEq, Prod.mk.injEq, DataW.lit.injEq, Lit.int.injEq, true_and] at h
    exfalso; omega
  · simp only [Option.some.injEq, Prod.mk.injEq, DataW.lit.injEq, Lit.int.injEq, true_and, Int.natCast_inj] at h
    rw [h.1]
  · cases h
def klOf (c : UInt8) : Lit := .int .u8 (c.toNat : Int)
theorem klOf_wf (c : UInt8) : (klOf c).wf = true := by
  have := c.toNat_lt
  exact wf_u8.mpr ⟨by omega, by omega⟩
theorem klOf_ne {c d : UInt8} (h : c ≠ d) : klOf c ≠ klOf d := by
  intro e
  apply h
  unfold klOf at e
  simp only [Lit.int.injEq, true_and, Int.natCast_inj] at e
  exact UInt8.toNat_inj.1 e
theorem Tryz.law_u8 : Keyed Tryz.prog 5 := int_keyed Tryz.underlying5
theorem keyOf_byte (c : UInt8) : keyOf Tryz.prog 5 (.int .u8 (c.toNat : Int)) = some (klOf c) := keyOf_int_mk Tryz.underlying5 (klOf_wf c)
theorem klOf_key (c : UInt8) : WideAt.IsKeyLit (klOf c) := trivial
structure Node (w : World) (B b m cnt : Nat) (D : DataW Unit) : Prop where
  cell : w.cell? ⟨b, 0, none⟩ = some (.map (some m))
  lob : B ≤ b
  lom : B ≤ m
  own : w.ownsMap Tryz.prog 5 ptrElem m cnt D
structure Kids (D : DataW Unit) (N : List UInt8 → Option Nat) (p : List UInt8) : Prop where
  has : ∀ c, Maps.has D (klOf c) = (N (c :: p)).isSome
  at_ : ∀ c b, N (c :: p) = some b → ∀ z, D.atKey (klOf c) z = .lit (.int .i64 (b : Int))
  size : Maps.size D = 0 ↔ ∀ c, N (c :: p) = none
structure Trie (w : World) (B cnt : Nat) (N : List UInt8 → Option Nat) : Prop where
  low : B ≤ w.heap.size
  node : ∀ p b, N p = some b → ∃ m D, Node w B b m cnt D ∧ Kids D N p
  apart : ∀ p q b b' m, N p = some b → N q = some b' → w.cell? ⟨b, 0, none⟩ = some (.map (some m)) → w.cell? ⟨b', 0, none⟩ = some (.map (some m)) → p = q
  closed : ∀ c p, (N (c :: p)).isSome = true → (N p).isSome = true
section
variable {w w' : World} {B cnt : Nat} {N : List UInt8 → Option Nat}
theorem Trie.drewN (h : Trie w B cnt N) (n : Nat) : Trie (w.drewN n) B cnt N :=
  ⟨h.low, fun p b hp => let ⟨m, D, a, k⟩ := h.node p b hp; ⟨m, D, ⟨a.cell, a.lob, a.lom, a.own⟩, k⟩, h.apart, h.closed⟩
theorem Trie.more (h : Trie w B cnt N) {cnt' : Nat} (hc : cnt ≤ cnt') : Trie w B cnt' N :=
  ⟨h.low, fun p b hp => let ⟨m, D, a, k⟩ := h.node p b hp; ⟨m, D, ⟨a.cell, a.lob, a.lom, a.own.mono hc⟩, k⟩, h.apart, h.closed⟩
theorem cell_lt {w : World} {a : Addr} {v : Value} (h : w.cell? a = some v) : a.block < w.heap.size := by
  rcases Nat.lt_or_ge a.block w.heap.size with h1 | h1
  · exact h1
  · exfalso
    unfold World.cell? at h
    rw [Array.getElem?_eq_none h1] at h
    cases h
theorem Trie.kept (h : Trie w B cnt N) (hg : w.grownBy w' none) : Trie w' B cnt N := by
  have hcell : ∀ p b, N p = some b → w'.cell? ⟨b, 0, none⟩ = w.cell? ⟨b, 0, none⟩ := fun p b hp => by
    obtain ⟨m, D, a, k⟩ := h.node p b hp
    exact World.cell?_of_block (hg.block b (cell_lt a.cell) (by simp))
  refine ⟨Nat.le_trans h.low hg.size, fun p b hp => ?_, fun p q b b' m hp hq h1 h2 => ?_, h.closed⟩
  · obtain ⟨m, D, a, k⟩ := h.node p b hp
    exact ⟨m, D, ⟨(hcell p b hp).trans a.cell, a.lob, a.lom, a.own.kept hg (by simp)⟩, k⟩
  · exact h.apart p q b b' m hp hq ((hcell p b hp).symm.trans h1) ((hcell q b' hq).symm.trans h2)
theorem zero_ptr (w : World) : (zeroValue 117).run Tryz.prog w = .ok (.pointer none) w := by kernel_rfl
theorem Trie.look (h : Trie w B cnt N) {p : List UInt8} {b : Nat} (hp : N p = some b) : ∃ m, w.cell? ⟨b, 0, none⟩ = some (.map (some m)) ∧
    (∀ c b', N (c :: p) = some b' → ∀ n, (Instr.lookup 142 (.map (some m)) (.int .u8 (c.toNat : Int)) true).run Tryz.prog (w.drewN n) = .ok (.tuple #[.pointer (some ⟨b', 0, none⟩), .bool true]) (w.drewN n)) ∧
    (∀ c, N (c :: p) = none → ∀ n, (Instr.lookup 142 (.map (some m)) (.int .u8 (c.toNat : Int)) true).run Tryz.prog (w.drewN n) = .ok (.tuple #[.pointer none, .bool false]) (w.drewN n)) := by
  obtain ⟨m, D, a, k⟩ := h.node p b hp
  refine ⟨m, a.cell, fun c b' hc n => ?_, fun c hc n => ?_⟩
  · have hown : (w.drewN n).ownsMap Tryz.prog 5 ptrElem m cnt D := a.own
    obtain ⟨v, ps, hrun, hv⟩ := hown.look_ok Tryz.law_u8 Tryz.underlying142 (zero_ptr _) (zd := .lit (.int .i64 (-1))) (zp := []) rfl (keyOf_byte c)
    rw [k.at_ c b' hc] at hv
    rw [k.has c, hc, ptrElem_inv hv] at hrun
    exact hrun
  · have hown : (w.drewN n).ownsMap Tryz.prog 5 ptrElem m cnt D := a.own
    obtain ⟨v, ps, hrun, hv⟩ := hown.look_ok Tryz.law_u8 Tryz.underlying142 (zero_ptr _) (zd := .lit (.int .i64 (-1))) (zp := []) rfl (keyOf_byte c)
    rw [atKey_of_not_has (by rw [k.has c, hc]; rfl)] at hv
    rw [k.has c, hc, ptrElem_nil hv] at hrun
    exact hrun
def putN (N : List UInt8 → Option Nat) (q : List UInt8) (b : Nat) : List UInt8 → Option Nat := fun r => if r = q then some b else N r
theorem putN_same (N : List UInt8 → Option Nat) (q : List UInt8) (b : Nat) : putN N q b q = some b := if_pos rfl
theorem putN_other {N : List UInt8 → Option Nat} {q r : List UInt8} {b : Nat} (h : r ≠ q) : putN N q b r = N r := if_neg h
theorem putN_old {N : List UInt8 → Option Nat} {q r : List UInt8} {b x : Nat} (hq : N q = none) (h : N r = some x) : putN N q b r = some x := by
  rw [putN_other (by rintro rfl; rw [hq] at h; cases h), h]
def newNode (w : World) : World := (w.alloc (.map #[] 0)).alloc (.cells #[.map (some w.heap.size)] 144)
theorem size_alloc (w : World) (o : Obj) : (w.alloc o).heap.size = w.heap.size + 1 := by simp
theorem newNode_size (w : World) : (newNode w).heap.size = w.heap.size + 2 := by unfold newNode; rw [size_alloc, size_alloc]
theorem newNode_grown (w : World) : w.grownBy (newNode w) none := (World.grownBy_alloc w _ none).trans (World.grownBy_alloc _ _ none)
theorem newNode_cell (w : World) : (newNode w).cell? ⟨w.heap.size + 1, 0, none⟩ = some (.map (some w.heap.size)) := by
  have e : (newNode w).heap[w.heap.size + 1]? = some (.cells #[.map (some w.heap.size)] 144 (0, 0)) := by
    have := (MapKept.heap_alloc (w.alloc (.map #[] 0)) (.cells #[.map (some w.heap.size)] 144)).1
    rw [size_alloc] at this
    exact this
  unfold World.cell?
  rw [e]
  rfl
theorem newNode_own (w : World) (n : Nat) : (newNode w).ownsMap Tryz.prog 5 ptrElem w.heap.size n (.map []) :=
  ((World.ownsMap_made w Tryz.prog 5 ptrElem).alloc _).mono (Nat.zero_le _)
theorem newNode_below (w : World) (B : Nat) (hB : B ≤ w.heap.size) : Below B w (newNode w) := (((Below.refl B w).alloc hB _).alloc (by rw [size_alloc]; omega) _)
set_option maxRecDepth 100000 in
theorem Trie.put (h : Trie w B cnt N) {p : List UInt8} {b m : Nat} {c : UInt8} (hp : N p = some b) (hc : N (c :: p) = none) (hcnt : cnt < maxLen) (hm : w.cell? ⟨b, 0, none⟩ = some (.map (some m))) :
    ∃ w2, (Instr.mapUpdate 142 (.map (some m)) (.int .u8 (c.toNat : Int)) (.pointer (some ⟨w.heap.size + 1, 0, none⟩))).run Tryz.prog (newNode w).drew = .ok () w2 ∧
      Trie w2 B (cnt + 1) (putN N (c :: p) (w.heap.size + 1)) ∧ Below B w w2 := by
  have h1 := h.kept (newNode_grown w)
  obtain ⟨m', D, a, k⟩ := h1.node p b hp
  have hbl := cell_lt hm
  have hmm : m' = m := by
    have e := a.cell
    rw [World.cell?_of_block ((newNode_grown w).block b hbl (by simp)), hm] at e
    injection e with e; injection e with e; injection e with e; exact e.symm
  subst hmm
  have hmlt : m' < w.heap.size := by
    obtain ⟨m2, D2, a2, _⟩ := h.node p b hp
    have e := a2.cell
    rw [hm] at e
    injection e with e; injection e with e; injection e with e
    subst e; exact a2.own.lt
  have hown : (newNode w).drew.ownsMap Tryz.prog 5 ptrElem m' cnt D := a.own
  obtain ⟨w2, hrun, ho2, hg2⟩ := hown.update Tryz.law_u8 Tryz.underlying142 hcnt (keyOf_byte c) (ptrElem_mk (w.heap.size + 1))
  have hg2' : (newNode w).grownBy w2 (some m') := ⟨hg2.os, hg2.tape, hg2.output, hg2.size, hg2.block⟩
  have hsz := newNode_size w
  have hmc : (newNode w).cell? ⟨m', 0, none⟩ = none := by
    obtain ⟨es, clock, hb, _⟩ := a.own
    unfold World.cell?; rw [hb]
  have hcell : ∀ x, (newNode w).cell? ⟨x, 0, none⟩ ≠ none → w2.cell? ⟨x, 0, none⟩ = (newNode w).cell? ⟨x, 0, none⟩ := fun x hx => by
    have hlt : x < (newNode w).heap.size := by
      cases e : (newNode w).cell? ⟨x, 0, none⟩ with
      | none => exact absurd e hx
      | some v => exact cell_lt e
    exact World.cell?_of_block (hg2'.block x hlt (fun e => by injection e with e; rw [e] at hx; exact hx hmc))
  have hnew : w2.cell? ⟨w.heap.size + 1, 0, none⟩ = some (.map (some w.heap.size)) := by
    rw [hcell _ (by rw [newNode_cell]; simp), newNode_cell]
  have hold : ∀ q x, N q = some x → w2.cell? ⟨x, 0, none⟩ = (newNode w).cell? ⟨x, 0, none⟩ := fun q x hq => by
    obtain ⟨m1, D1, a1, _⟩ := h1.node q x hq
    exact hcell x (by rw [a1.cell]; simp)
  have hne : ∀ r : List UInt8, N r ≠ none → r ≠ c :: p := fun r hr e => hr (e ▸ hc)
  have hleaf : ∀ d, N (d :: c :: p) = none := fun d => by
    cases e : N (d :: c :: p) with
    | none => rfl
    | some x => exfalso; have := h.closed d (c :: p) (by rw [e]; rfl); rw [hc] at this; cases this
  refine ⟨w2, hrun, ⟨?_, ?_, ?_, ?_⟩, ?_⟩
  · exact Nat.le_trans h1.low hg2'.size
  · intro q x hq
    by_cases e : q = c :: p
    · subst e
      rw [putN_same] at hq; injection hq with hq; subst hq
      refine ⟨w.heap.size, .map [], ⟨hnew, by have := h.low; omega, h.low, (newNode_own w (cnt + 1)).kept hg2' (fun e => by injection e with e; omega)⟩, ?_, ?_, ?_⟩
      · intro d
        rw [putN_other (by intro e; have := congrArg List.length e; simp at this), hleaf d]; rfl
      · intro d x hx
        rw [putN_other (by intro e; have := congrArg List.length e; simp at this), hleaf d] at hx; cases hx
      · refine ⟨fun _ d => ?_, fun _ => rfl⟩
        rw [putN_other (by intro e; have := congrArg List.length e; simp at this), hleaf d]
    · rw [putN_other e] at hq
      by_cases eq : q = p
      · subst eq
        rw [hp] at hq; injection hq with hq; subst hq
        have hTidy := a.own.tidy Tryz.law_u8
        have hhas : Maps.has D (klOf c) = false := by rw [k.has c, hc]; rfl
        refine ⟨m', D.put (klOf c) (.lit (.int .i64 ((w.heap.size + 1 : Nat) : Int))), ⟨(hold _ _ hp).trans a.cell, a.lob, a.lom, ho2⟩, ?_, ?_, ?_⟩
        · intro d
          by_cases ed : d = c
          · subst ed; rw [has_put_same hTidy.isMap (klOf_key _), putN_same]; rfl
          · rw [has_put_other (klOf_ne ed), k.has d, putN_other (by simp [ed])]
        · intro d x hx z
          by_cases ed : d = c
          · subst ed; rw [putN_same] at hx; injection hx with hx; subst hx
            rw [atKey_put_same hTidy.isMap (klOf_key _)]
          · rw [putN_other (by simp [ed])] at hx
            rw [atKey_put_other (klOf_ne ed), k.at_ d x hx]
        · rw [size_put hTidy, hhas]
          constructor
          · intro e; simp at e
          · intro e; have := e c; rw [putN_same] at this; cases this
      · obtain ⟨m1, D1, a1, k1⟩ := h1.node q x hq
        have hm1 : m1 ≠ m' := fun e => eq (h1.apart q p x b m' hq hp (e ▸ a1.cell) a.cell)
        have hk : ∀ d, putN N (c :: p) (w.heap.size + 1) (d :: q) = N (d :: q) := fun d => putN_other (by intro e; injection e with _ e; exact eq e)
        refine ⟨m1, D1, ⟨(hold _ _ hq).trans a1.cell, a1.lob, a1.lom, (a1.own.kept hg2' (fun e => by injection e with e; exact hm1 e)).mono (Nat.le_succ _)⟩, ?_, ?_, ?_⟩
        · intro d; rw [hk d]; exact k1.has d
        · intro d x hx; rw [hk d] at hx; exact k1.at_ d x hx
        · rw [k1.size]; exact forall_congr' fun d => by rw [hk d]
  · have hfresh : ∀ q x, N q = some x → w2.cell? ⟨x, 0, none⟩ ≠ some (.map (some w.heap.size)) := fun q x hq e => by
      obtain ⟨m1, D1, a1, _⟩ := h.node q x hq
      rw [hold q x hq, World.cell?_of_block ((newNode_grown w).block x (cell_lt a1.cell) (by simp)), a1.cell] at e
      injection e with e; injection e with e; injection e with e
      have := a1.own.lt
      omega
    intro q r x y m1 hq hr e1 e2
    by_cases eq : q = c :: p
    · by_cases er : r = c :: p
      · rw [eq, er]
      · exfalso
        rw [eq, putN_same] at hq; injection hq with hq; subst hq
        rw [putN_other er] at hr
        rw [hnew] at e1; injection e1 with e1; injection e1 with e1; injection e1 with e1; subst e1
        exact hfresh r y hr e2
    · rw [putN_other eq] at hq
      by_cases er : r = c :: p
      · exfalso
        rw [er, putN_same] at hr; injection hr with hr; subst hr
        rw [hnew] at e2; injection e2 with e2; injection e2 with e2; injection e2 with e2; subst e2
        exact hfresh q x hq e1
      · rw [putN_other er] at hr
        rw [hold q x hq] at e1; rw [hold r y hr] at e2
        exact h1.apart q r x y m1 hq hr e1 e2
  · intro d q hq
    by_cases e : d :: q = c :: p
    · injection e with _ e
      subst e
      rw [putN_other (by intro e; have := congrArg List.length e; simp at this), hp]; rfl
    · rw [putN_other e] at hq
      have := h.closed d q hq
      by_cases e2 : q = c :: p
      · subst e2; rw [putN_same]; rfl
      · rw [putN_other e2]; exact this
  · exact (newNode_below w B h.low).grown hg2' (by rw [hsz]; have := h.low; omega) (fun j hj => by injection hj with hj; subst hj; exact a.lom)
end
open Go.RowKit Go.Maps
theorem newEndTree_any (w : World) :
    Calls Tryz.prog 109 #[] w fun e w' => e = .returned (.pointer (some ⟨w.heap.size + 1, 0, none⟩)) ∧ w' = newNode w := by
  have hmm := @run_makeMap Tryz.prog
  go_enter Tryz.func109, Tryz.ntmps109
  go_wp2
  go_ret
  exact ⟨rfl, rfl⟩
theorem drop_byte {s : ByteArray} {k : Nat} (h : k < s.size) : s.data.toList.drop k = s[k] :: s.data.toList.drop (k + 1) := by
  have hl : k < s.data.toList.length := by simpa using h
  rw [List.drop_eq_getElem_cons hl]
  rfl
set_option maxHeartbeats 1000000 in
theorem add_any (w : World) (B cnt root : Nat) (N : List UInt8 → Option Nat) (hT : Trie w B cnt N) (hroot : N [] = some root) (s : ByteArray) (hs : s.size ≤ 8) (hcnt : cnt + 8 ≤ maxLen) :
    Calls Tryz.prog 110 #[.pointer (some ⟨root, 0, none⟩), .string s] w fun e w' => e = .returned (.tuple #[]) ∧
      ∃ N', Trie w' B (cnt + 8) N' ∧ N' [] = some root ∧ (∀ q, (N' q).isSome = true ↔ (N q).isSome = true ∨ q <:+ s.data.toList) ∧ Below B w w' := by
  have hlen : s.data.toList.length = s.size := by simp
  have HLN := hidden hlen
  have HT := hidden hT
  have HR := hidden hroot
  clear hlen hT hroot
  go_enter Tryz.func110, Tryz.ntmps110
  go_wp2
  go_loopw [4, 0] (fun i t wr => ∃ (j b : Nat) (a : Int) (N' : List UInt8 → Option Nat), i = .int .i64 a ∧ a = (j : Int) - 1 ∧ j ≤ s.size ∧ t = .pointer (some ⟨b, 0, none⟩) ∧
      Hid (N' (s.data.toList.drop j) = some b) ∧ Hid (Trie wr B (cnt + (s.size - j)) N') ∧ Hid (∀ q x, N q = some x → N' q = some x) ∧
      Hid (∀ q, (N' q).isSome = true → (N q).isSome = true ∨ q <:+ s.data.toList) ∧ Below B w wr) (fun i _ _ => (intOf i + 1).toNat)
  case atStart =>
    refine ⟨s.size, root, _, N, rfl, by omega, Nat.le_refl _, rfl, hidden ?_, hidden (by rw [Nat.sub_self]; exact HT.out), hidden fun q x h => h, hidden fun q h => .inl h, Below.refl _ _⟩
    rw [List.drop_eq_nil_of_le (by rw [HLN.out]; omega)]; exact HR.out
  case round =>
    obtain ⟨j, b, a, N', rfl, ha, hj, rfl, hb, ht, hold, hnew, hbel⟩ := hrel
    rcases j with _ | k
    · obtain rfl : a = -1 := by omega
      have hN0 := hidden (show N' s.data.toList = some b by simpa using hb.out)
      clear ha hb
      go_wp2
      go_end0
      refine ⟨rfl, N', ht.out.more (by omega), hold.out _ _ HR.out, fun q => ⟨hnew.out q, ?_⟩, hbel⟩
      rintro (hq | ⟨u, hu⟩)
      · obtain ⟨x, hx⟩ := Option.isSome_iff_exists.1 hq
        rw [hold.out q x hx]; rfl
      · have : ∀ (u v : List UInt8), (N' (u ++ v)).isSome = true → (N' v).isSome = true := by
          intro u
          induction u with
          | nil => intro v h; exact h
          | cons d u ih => intro v h; exact ih v (ht.out.closed d _ h)
        exact this u q (by rw [hu, hN0.out]; rfl)
    · obtain rfl : a = (k : Int) := by omega
      have hk : k < s.size := by omega
      have hi : (k : Int) < (s.size : Int) := by omega
      obtain ⟨m, hm, look1, look0⟩ := ht.out.look hb.out
      have hdrop := drop_byte hk
      obtain ⟨p, hp⟩ : ∃ p, s.data.toList.drop (k + 1) = p := ⟨_, rfl⟩
      obtain ⟨c, hc⟩ : ∃ c, s[k] = c := ⟨_, rfl⟩
      rw [hp, hc] at hdrop
      have hb' := hb.out
      rw [hp] at hb'
      rw [hp] at look1 look0
      have hsuf : (c :: p) <:+ s.data.toList := ⟨s.data.toList.take k, by rw [← hdrop]; exact List.take_append_drop _ _⟩
      obtain ⟨x, hx⟩ : ∃ x : Int, ((c.toNat : Nat) : Int) = x := ⟨_, rfl⟩
      have hsx : ((s[k].toNat : Nat) : Int) = x := by rw [hc]; exact hx
      have HP := hidden hp
      have HB := hidden hb'
      have HD := hidden hdrop
      have HM := hidden hm
      have HX := hidden hx
      clear hp hc hx ha hb' hdrop hb hm
      rcases hnk : N' (c :: p) with _ | b'
      · have hl := look0 c hnk
        rw [HX.out] at hl
        have hm := HM.out
        clear look0 look1
        go_wp2
        go_quiet (fail)
        go_wp2_with (go_at_call 109; (refine (newEndTree_any _).mono ?_); rintro e w1 ⟨rfl, rfl⟩)
        have htd := ht.out.drewN nq
        have hszd : (wr.drewN nq).heap.size = wr.heap.size := rfl
        obtain ⟨w2, hrun, ht2, hb2⟩ := htd.put HB.out hnk (by omega) HM.out
        have hm1 : (newNode (wr.drewN nq)).cell? ⟨b, 0, none⟩ = some (.map (some m)) := by
          rw [World.cell?_of_block ((newNode_grown (wr.drewN nq)).block b (cell_lt (w := wr.drewN nq) HM.out) (by simp))]
          exact HM.out
        rw [HX.out, hszd] at hrun
        rw [hszd] at ht2
        clear hszd
        have HT2 := hidden ht2
        have hbel2 : Below B w w2 := by
          have h1 : Below B w (wr.drewN nq) := ⟨hbel.os, hbel.tape, hbel.output, hbel.size, hbel.block⟩
          exact h1.trans hb2
        clear ht2 htd hb2 hl hm
        go_region
        all_goals
          go_wp2
          go_roundw
          case rel =>
            refine ⟨k, wr.heap.size + 1, _, putN N' (c :: p) (wr.heap.size + 1), by go_num, rfl, by omega, rfl, hidden ?_, hidden ?_, hidden ?_, hidden ?_, hbel2⟩
            · rw [HD.out]; exact putN_same _ _ _
            · exact HT2.out.more (by omega)
            · exact fun q x hq => putN_old hnk (hold.out q x hq)
            · intro q hq
              by_cases e : q = c :: p
              · exact .inr (e ▸ hsuf)
              · rw [putN_other e] at hq; exact hnew.out q hq
          case measure => simp [intOf]
      · have hl := look1 c b' hnk
        rw [HX.out] at hl
        have hm := HM.out
        clear look0 look1
        go_wp2
        go_quiet (fail)
        go_wp2
        go_roundw
        case rel =>
          refine ⟨k, b', _, N', by go_num, rfl, by omega, rfl, hidden ?_, hidden ?_, hold, hnew, ⟨hbel.os, hbel.tape, hbel.output, hbel.size, hbel.block⟩⟩
          · rw [HD.out]; exact hnk
          · exact (ht.out.more (by omega)).drewN _
        case measure => simp [intOf]
set_option maxHeartbeats 1000000 in
theorem isWhole_any (w : World) (B cnt root : Nat) (N : List UInt8 → Option Nat) (hT : Trie w B cnt N) (hroot : N [] = some root) (s : ByteArray) (hs : s.size ≤ 8) (hin : ∀ j, (N (s.data.toList.drop j)).isSome = true)
    (r : Bool) (hr : r = true ↔ ∀ c, N (c :: s.data.toList) = none) :
    Calls Tryz.prog 94 #[.pointer (some ⟨root, 0, none⟩), .string s] w fun e w' => e = .returned (.bool r) ∧ ∃ q, w' = w.drewN q := by
  have hlen : s.data.toList.length = s.size := by simp
  have HLN := hidden hlen
  have HT := hidden hT
  have HR := hidden hroot
  have HI := hidden hin
  have HB := hidden hr
  clear hlen hT hroot hin hr
  go_enter Tryz.func94, Tryz.ntmps94
  go_wp2
  go_loopw [5, 0] (fun i t wr => ∃ (j b : Nat) (a : Int), i = .int .i64 a ∧ a = (j : Int) - 1 ∧ j ≤ s.size ∧ t = .pointer (some ⟨b, 0, none⟩) ∧
      Hid (N (s.data.toList.drop j) = some b) ∧ Hid (Trie wr B cnt N) ∧ Hid (∃ g, wr = w.drewN g)) (fun i _ _ => (intOf i + 1).toNat)
  case atStart =>
    refine ⟨s.size, root, _, rfl, by omega, Nat.le_refl _, rfl, hidden ?_, HT, hidden ⟨0, rfl⟩⟩
    rw [List.drop_eq_nil_of_le (by rw [HLN.out]; omega)]; exact HR.out
  case round =>
    obtain ⟨j, b, a, rfl, ha, hj, rfl, hb, ht, hg⟩ := hrel
    rcases j with _ | k
    · obtain rfl : a = -1 := by omega
      have hN0 := hidden (show N s.data.toList = some b by simpa using hb.out)
      obtain ⟨m, D, nd, kids⟩ := ht.out.node _ _ hN0.out
      have hm : wr.cell? ⟨b, 0, none⟩ = some (.map (some m)) := nd.cell
      have hown : wr.ownsMap Tryz.prog 5 ptrElem m cnt D := nd.own
      obtain ⟨z, hz⟩ : ∃ z, Maps.size D = z := ⟨_, rfl⟩
      have HZ := hidden hz
      have hzr : ((z : Int) == 0) = r := by
        have h1 := kids.size
        rw [← HB.out, hz] at h1
        rw [Bool.eq_iff_iff, ← h1]; simp
      clear ha hb hz kids
      go_wp2_with (at_len; refine wpList_len_own _ rfl _ 142 rfl 5 117 Tryz.underlying142 ptrElem m cnt D rfl hown ?_; rw [HZ.out])
      go_ret
      exact ⟨rfl, hg.out⟩
    · obtain rfl : a = (k : Int) := by omega
      have hk : k < s.size := by omega
      have hi : (k : Int) < (s.size : Int) := by omega
      obtain ⟨m, hm, look1, _⟩ := ht.out.look hb.out
      have hdrop := drop_byte hk
      obtain ⟨p, hp⟩ : ∃ p, s.data.toList.drop (k + 1) = p := ⟨_, rfl⟩
      obtain ⟨c, hc⟩ : ∃ c, s[k] = c := ⟨_, rfl⟩
      rw [hp, hc] at hdrop
      rw [hp] at look1
      obtain ⟨x, hx⟩ : ∃ x : Int, ((c.toNat : Nat) : Int) = x := ⟨_, rfl⟩
      have hsx : ((s[k].toNat : Nat) : Int) = x := by rw [hc]; exact hx
      obtain ⟨b', hnk⟩ : ∃ b', N (c :: p) = some b' := by
        have := HI.out k
        rw [hdrop] at this
        exact Option.isSome_iff_exists.1 this
      have hl := look1 c b' hnk
      rw [hx] at hl
      have HD := hidden hdrop
      clear hp hc ha hb hdrop hx look1
      go_wp2
      go_quiet (fail)
      go_wp2
      go_roundw
      case rel =>
        refine ⟨k, b', _, by go_num, rfl, by omega, rfl, hidden ?_, ht.out.drewN _, hidden (by obtain ⟨g, e⟩ := hg.out; exact ⟨g + nq, by rw [e, World.drewN_drewN]⟩)⟩
        rw [HD.out]; exact hnk
      case measure => simp [intOf]
open Go.RowKit Go.Maps
theorem namesOk_bad {names : List ByteArray} {k : Nat} {x : ByteArray} (hx : names[k]? = some x) (h : nameOk x.data.toList = false) : namesOk names = false := by
  cases hn : namesOk names with
  | false => rfl
  | true =>
    simp only [namesOk, Bool.and_eq_true, List.all_eq_true] at hn
    have := hn.1 x (List.mem_of_getElem? hx)
    rw [h] at this; cases this
set_option maxHeartbeats 1000000 in
theorem namesValid_any (w : World) (B : Nat) (a : Option Addr) (cap : Nat) (names : List ByteArray) (h : Vals w B a (names.map Value.string)) (hn : names.length ≤ 9223372036854775807) (hs : ∀ x ∈ names, x.size ≤ maxLen) :
    Calls Tryz.prog 91 #[.slice a names.length cap] w fun e w' => e = .returned (.bool (namesOk names)) ∧ w = w' := by
  obtain ⟨n, hN⟩ : ∃ n, n = names.length := ⟨_, rfl⟩
  rw [← hN] at hn ⊢
  have HN := hidden hN
  have HV := hidden h
  have HS := hidden hs
  clear hN h hs
  by_cases hm : 40 < n
  · have hm' : (40 : Int) < (n : Int) := by omega
    have HF : Hid (namesOk names = false) := by show _ = _; unfold namesOk; rw [← HN.out]; simp; omega
    go_enter Tryz.func91, Tryz.ntmps91
    go_wp2_with fail
    go_ret
    exact ⟨ret_bool HF.out.symm, rfl⟩
  have hm' : ¬ (40 : Int) < (n : Int) := by omega
  go_enter Tryz.func91, Tryz.ntmps91
  go_wp2_with fail
  go_loop [10] (fun i => ∃ k : Nat, k ≤ n ∧ i = .int .i64 k ∧ Hid (∀ j x, j < k → names[j]? = some x → nameOk x.data.toList = true)) (fun i => n - (intOf i).toNat)
  case atStart => exact ⟨0, Nat.zero_le _, rfl, hidden (by intro j x hj; omega)⟩
  case round =>
    obtain ⟨k, hk, rfl, hall⟩ := hrel
    by_cases hlt : k < n
    · have hkL : k < names.length := by rw [← HN.out]; exact hlt
      have hx : names[k]? = some names[k] := List.getElem?_eq_getElem hkL
      have hxs := HS.out _ (List.getElem_mem hkL)
      obtain ⟨b0, o0, ha, hb0, e⟩ := HV.out.at_ (i := k) (by simpa using hkL)
      subst ha
      obtain ⟨x, hxx⟩ : ∃ x, names[k] = x := ⟨_, rfl⟩
      have e' : w.cell? ⟨b0, o0 + k, none⟩ = some (.string x) := by rw [e]; simp [hxx]
      rw [hxx] at hx hxs
      have HX := hidden hx
      clear hx hxx e hkL
      have hi : (k : Int) < (n : Int) := by omega
      rcases hok : nameOk x.data.toList with _ | _
      · have HF : Hid (namesOk names = false) := namesOk_bad HX.out hok
        have HC := nameValid_any x w hxs
        rw [hok] at HC
        have HCC := hidden HC
        clear hall HC hok
        go_wp2_with (go_at_call 108; refine HCC.out.mono ?_; rintro e w' ⟨rfl, rfl⟩)
        go_ret
        exact ⟨ret_bool HF.out.symm, rfl⟩
      · have HF : Hid (∀ j y, j < k + 1 → names[j]? = some y → nameOk y.data.toList = true) := fun j y hj hy => by
          rcases Nat.lt_or_ge j k with h1 | h1
          · exact hall.out j y h1 hy
          · have : j = k := by omega
            subst this
            rw [HX.out] at hy; injection hy with hy; subst hy; exact hok
        have HC := nameValid_any x w hxs
        rw [hok] at HC
        have HCC := hidden HC
        clear hall HC hok
        go_wp2_with (go_at_call 108; refine HCC.out.mono ?_; rintro e w' ⟨rfl, rfl⟩)
        go_round
        case rel => exact ⟨k + 1, by omega, by go_num, HF⟩
        case measure => simp [intOf]; omega
    · have hi : ¬ (k : Int) < (n : Int) := by omega
      have HF : Hid (namesOk names = true) := by
        show _ = _
        simp only [namesOk, Bool.and_eq_true, List.all_eq_true, decide_eq_true_eq]
        refine ⟨fun x hx => ?_, by rw [← HN.out]; omega⟩
        obtain ⟨j, hj, he⟩ := List.getElem_of_mem hx
        exact hall.out j x (by rw [← HN.out] at hj; omega) (by rw [List.getElem?_eq_getElem hj, he])
      clear hall
      go_wp2_with fail
      go_ret
      exact ⟨ret_bool HF.out.symm, rfl⟩
def rootN (b : Nat) : List UInt8 → Option Nat := fun q => if q = [] then some b else none
theorem Trie.start (w : World) : Trie (newNode w) w.heap.size 0 (rootN (w.heap.size + 1)) := by
  refine ⟨by rw [newNode_size]; omega, fun p b hp => ?_, fun p q b b' m hp hq _ _ => ?_, fun c p hp => ?_⟩
  · unfold rootN at hp
    split at hp
    · rename_i e
      injection hp with hp
      subst e; subst hp
      refine ⟨w.heap.size, .map [], ⟨newNode_cell w, by omega, Nat.le_refl _, newNode_own w 0⟩, fun c => ?_, fun c b' hc => ?_, ⟨fun _ c => ?_, fun _ => rfl⟩⟩
      · simp [rootN]; rfl
      · simp [rootN] at hc
      · simp [rootN]
    · cases hp
  · unfold rootN at hp hq
    split at hp
    · rename_i e1
      split at hq
      · rename_i e2; rw [e1, e2]
      · cases hq
    · cases hp
  · simp [rootN] at hp
set_option maxHeartbeats 1000000 in
theorem endsOf_any (w : World) (B : Nat) (a : Option Addr) (cap : Nat) (names : List ByteArray) (h : Vals w B a (names.map Value.string)) (hB : B ≤ w.heap.size) (hn : names.length ≤ 40) (hs : ∀ x ∈ names, x.size ≤ 8) :
    Calls Tryz.prog 92 #[.slice a names.length cap] w fun e w' => ∃ root, e = .returned (.pointer (some ⟨root, 0, none⟩)) ∧ ∃ N, Trie w' w.heap.size 400 N ∧ N [] = some root ∧
      (∀ q, (N q).isSome = true ↔ q = [] ∨ ∃ x ∈ names, q <:+ x.data.toList) ∧ Below w.heap.size w w' := by
  obtain ⟨n, hN⟩ : ∃ n, n = names.length := ⟨_, rfl⟩
  rw [← hN] at hn ⊢
  have HN := hidden hN
  have HV := hidden h
  have HS := hidden hs
  clear hN h hs
  go_enter Tryz.func92, Tryz.ntmps92
  go_wp2_with (go_at_call 109; refine (newEndTree_any _).mono ?_; rintro e w1 ⟨rfl, rfl⟩)
  go_loopw [9] (fun i wr => ∃ (k : Nat) (N : List UInt8 → Option Nat), k ≤ n ∧ i = .int .i64 k ∧ Hid (Trie wr w.heap.size (8 * k) N) ∧ Hid (N [] = some (w.heap.size + 1)) ∧
    Hid (∀ q, (N q).isSome = true ↔ q = [] ∨ ∃ x ∈ names.take k, q <:+ x.data.toList) ∧ Below w.heap.size w wr) (fun i _ => n - (intOf i).toNat)
  case atStart =>
    refine ⟨0, rootN (w.heap.size + 1), Nat.zero_le _, rfl, hidden (Trie.start w), hidden (if_pos rfl), hidden fun q => ?_, newNode_below w _ (Nat.le_refl _)⟩
    unfold rootN
    by_cases hq : q = [] <;> simp [hq]
  case round =>
    obtain ⟨k, N, hk, rfl, ht, hroot, hdom, hbel⟩ := hrel
    by_cases hlt : k < n
    · have hkL : k < names.length := by rw [← HN.out]; exact hlt
      have hxs := HS.out _ (List.getElem_mem hkL)
      obtain ⟨b0, o0, ha, hb0, e⟩ := (HV.out.below (hbel.mono hB)).at_ (i := k) (by simpa using hkL)
      subst ha
      obtain ⟨x, hxx⟩ : ∃ x, names[k] = x := ⟨_, rfl⟩
      have e' : wr.cell? ⟨b0, o0 + k, none⟩ = some (.string x) := by rw [e]; simp [hxx]
      have HT : Hid (names.take (k + 1) = names.take k ++ [x]) := by
        show _ = _
        rw [List.take_add_one, List.getElem?_eq_getElem hkL, hxx]; rfl
      rw [hxx] at hxs
      have hcall := add_any wr w.heap.size (8 * k) (w.heap.size + 1) N ht.out hroot.out x hxs (by unfold maxLen; omega)
      have HCALL := hidden hcall
      have hi : (k : Int) < (n : Int) := by omega
      clear hcall e hxx hkL ht hroot
      go_wp2_with fail
      refine HCALL.out.mono ?_
      clear HCALL
      rintro e w2 ⟨rfl, N', ht', hroot', hdom', hb'⟩
      have HT' := hidden ht'
      have HR' := hidden hroot'
      have HD' : Hid (∀ q, (N' q).isSome = true ↔ q = [] ∨ ∃ x ∈ names.take (k + 1), q <:+ x.data.toList) := fun q => by
        rw [hdom', hdom.out, HT.out]
        constructor
        · rintro ((h | ⟨y, hy, hq⟩) | h)
          · exact .inl h
          · exact .inr ⟨y, List.mem_append_left _ hy, hq⟩
          · exact .inr ⟨x, by simp, h⟩
        · rintro (h | ⟨y, hy, hq⟩)
          · exact .inl (.inl h)
          · rcases List.mem_append.1 hy with hy | hy
            · exact .inl (.inr ⟨y, hy, hq⟩)
            · simp only [List.mem_singleton] at hy; subst hy; exact .inr hq
      have hb2 := hbel.trans hb'
      clear ht' hroot' hdom' hb' hdom HT hbel
      go_wp2_with fail
      go_roundw
      case rel => exact ⟨k + 1, N', by omega, by go_num, hidden (HT'.out.more (by omega)), HR', HD', hb2⟩
      case measure => simp [intOf]; omega
    · have hi : ¬ (k : Int) < (n : Int) := by omega
      have hkn : k = names.length := by rw [← HN.out]; omega
      have HD : Hid (∀ q, (N q).isSome = true ↔ q = [] ∨ ∃ x ∈ names, q <:+ x.data.toList) := by
        have := hdom.out
        rw [hkn, List.take_length] at this
        exact this
      clear hkn hdom
      go_wp2_with fail
      go_ret
      exact ⟨_, rfl, N, ht.out.more (by omega), hroot.out, HD.out, hbel⟩
open Go.RowKit Go.Sort
theorem encStr_data (s : ByteArray) : encStr s.data.toList = .string s := by
  show Value.string (strL s.data.toList) = _
  rw [strL_data]
theorem map_encStr (names : List ByteArray) : (names.map fun s => s.data.toList).map encStr = names.map Value.string := by
  rw [List.map_map]
  exact List.map_congr_left fun s _ => encStr_data s
theorem encStr_strL (l : List (List UInt8)) : l.map encStr = (l.map strL).map Value.string := by
  rw [List.map_map]; rfl
theorem compact_length (zs : List (List UInt8)) : (Lib.compact zs).length ≤ zs.length := by
  unfold Lib.compact Lib.compactUpTo
  rw [List.length_map]
  exact Nat.le_trans (List.length_filter_le _ _) (by simp)
def StrRow (w : World) (a : Option Addr) (vs : List Value) : Prop :=
  0 < vs.length → ∃ (b : Nat) (cs : Array Value) (fr : Nat × Nat), a = some ⟨b, 0, none⟩ ∧ w.heap[b]? = some (.cells cs 9 fr) ∧ ∀ (i : Nat) (u : Value), vs[i]? = some u → cs[i]? = some u
section
variable {w w' : World} {a : Option Addr} {vs : List Value}
theorem StrRow.at_ (h : StrRow w a vs) {i : Nat} (hi : i < vs.length) : ∃ b, a = some ⟨b, 0, none⟩ ∧ w.cell? ⟨b, 0 + i, none⟩ = some vs[i] := by
  obtain ⟨b, cs, fr, ha, hb, hc⟩ := h (by omega)
  refine ⟨b, ha, ?_⟩
  unfold World.cell?
  rw [hb, Nat.zero_add]
  exact hc i _ (List.getElem?_eq_getElem hi)
theorem StrRow.drewN (h : StrRow w a vs) (n : Nat) : StrRow (w.drewN n) a vs := h
theorem StrRow.only (h : StrRow w a vs) (hg : w.grownBy w' none) : StrRow w' a vs := fun hn => by
  obtain ⟨b, cs, fr, ha, hb, hc⟩ := h hn
  exact ⟨b, cs, fr, ha, (hg.block b (Array.getElem?_eq_some_iff.1 hb).1 (by simp)).trans hb, hc⟩
theorem StrRow.grown {base n : Nat} {v : Value} {xs : List Value} (h : StrRow w a vs) (ho : w.ownsRow base 5 1 v n xs) (hg : w.grownBy w' v.ownBlock) : StrRow w' a vs := fun hn => by
  obtain ⟨b, cs, fr, ha, hb, hc⟩ := h hn
  refine ⟨b, cs, fr, ha, (hg.block b (Array.getElem?_eq_some_iff.1 hb).1 (fun e => ?_)).trans hb, hc⟩
  rcases ho.2 with ⟨rfl, _⟩ | ⟨g, cap, cur, rfl, _, hh, _⟩
  · simp [Value.ownBlock] at e
  · have eg : b = g := by simpa [Value.ownBlock] using e
    subst eg
    rw [hb] at hh
    injection hh with hh
    injection hh with _ h2
    cases h2
end
def Sorted (w : World) (names : List ByteArray) (e : Ending) (w' : World) : Prop :=
  ∃ (a : Option Addr) (c : Nat), e = .returned (.slice a (names.foldl insertS []).length c) ∧ StrRow w' a ((names.foldl insertS []).map Value.string) ∧ Below w.heap.size w w'
theorem sorted_none {w w' : World} {a : Option Addr} {c : Nat} (h : Below w.heap.size w w') : Sorted w [] (.returned (.slice a 0 c)) w' :=
  ⟨a, c, rfl, fun h0 => by simp at h0, h⟩
theorem below_sorted {w : World} {B g n : Nat} {os : Array Obj} {d : Array (List UInt8)} (hB : B ≤ w.heap.size) (hg : B ≤ g) : Below B w (grow (putRow encStr (Sort.ahead w n) g 0 d) os) :=
  (Below.refl B w).grown (grownBy_sorted d) hB (fun k hk => by injection hk with hk; subst hk; exact hg)
theorem below_putRow {w : World} {B g n : Nat} {d : Array (List UInt8)} (hB : B ≤ w.heap.size) (hg : B ≤ g) : Below B w (putRow encStr (Sort.ahead w n) g 0 d) := by
  have h := below_sorted (n := n) (os := #[]) (d := d) hB hg
  have e : grow (putRow encStr (Sort.ahead w n) g 0 d) #[] = putRow encStr (Sort.ahead w n) g 0 d := by unfold grow; rw [Array.append_empty]
  rw [e] at h; exact h
set_option maxHeartbeats 1000000 in
theorem sortedNames_any (w : World) (B : Nat) (a : Option Addr) (cap : Nat) (names : List ByteArray) (h : Vals w B a (names.map Value.string)) (hn : names.length ≤ 40) :
    Calls Tryz.prog 93 #[.slice a names.length cap] w (Sorted w names) := by
  rcases Nat.eq_zero_or_pos names.length with h0 | hpos
  · obtain rfl : names = [] := List.eq_nil_of_length_eq_zero h0
    clear h hn h0
    rcases a with _ | a
    · go_enter Tryz.func93, Tryz.ntmps93
      go_wp2_with (first
        | (go_at_call 111; refine (Tryz.slices_Clone_string_nil _ _ _).mono ?_; rintro e w1 ⟨rfl, rfl⟩)
        | (go_at_call 112; refine (Tryz.slices_Sort_string_none _ _ _).mono ?_; rintro e w1 ⟨rfl, rfl⟩)
        | (go_at_call 113; refine (Tryz.slices_Compact_string_empty _ _ _).mono ?_; rintro e w1 ⟨rfl, rfl⟩))
      go_ret
      exact sorted_none (Below.refl _ _)
    · have hcl := Tryz.slices_Clone_string_zero a cap w
      have HCL := hidden hcl
      clear hcl
      go_enter Tryz.func93, Tryz.ntmps93
      go_wp2_with fail
      refine HCL.out.mono ?_
      clear HCL
      rintro e w1 ⟨v, rfl, hown, hnn, hbel⟩
      rcases hown.2 with ⟨hnil, _⟩ | ⟨g, c, cur, rfl, hbase, hb, h1, h2, h3, h4⟩
      · exact absurd hnil hnn
      clear hown hnn h4 h3 h2 h1 hb hbase
      go_wp2_with (first
        | (go_at_call 112; refine (Tryz.slices_Sort_string_none _ _ _).mono ?_; rintro e w1 ⟨rfl, rfl⟩)
        | (go_at_call 113; refine (Tryz.slices_Compact_string_empty _ _ _).mono ?_; rintro e w1 ⟨rfl, rfl⟩))
      go_ret
      exact sorted_none hbel
  · obtain ⟨b, off, rfl, hb, hc⟩ := h (by simpa using hpos)
    have hcl := Tryz.slices_Clone_string b off names.length cap names w (Nat.le_refl _) (by omega) (fun j hj => by
      apply hc j
      rw [List.getElem?_map, List.getElem?_eq_getElem hj]
      simp [List.getD, List.getElem?_eq_getElem hj])
    rw [List.take_length] at hcl
    obtain ⟨n, hN⟩ : ∃ n, n = names.length := ⟨_, rfl⟩
    rw [← hN] at hcl hn hpos ⊢
    have HN := hidden hN
    have HCL := hidden hcl
    clear hcl hN h hc hb
    go_enter Tryz.func93, Tryz.ntmps93
    go_wp2_with fail
    refine HCL.out.mono ?_
    clear HCL
    rintro e w1 ⟨v, rfl, hown, hnn, hbel⟩
    rcases hown.2 with ⟨hnil, _⟩ | ⟨g, c, cur, rfl, hbase, hb, h1, h2, h3, h4⟩
    · exact absurd hnil hnn
    have hgl : g < w1.heap.size := (Array.getElem?_eq_some_iff.1 hb).1
    obtain ⟨ss, hss⟩ : ∃ ss, (names.map fun s => s.data.toList) = ss := ⟨_, rfl⟩
    have hsl : ss.length = n := by rw [← hss, List.length_map, HN.out]
    have hH : Holds encStr w1 g 0 ss.toArray := holds_of_block hb (by
      rw [hsl, ← hss, map_encStr]; simpa using h4)
    have hsort := Tryz.slices_Sort_string g 0 c ss w1 hH hgl (by omega)
    obtain ⟨zs, hz⟩ : ∃ zs, ss.mergeSort (fun x y => decide (x ≤ y)) = zs := ⟨_, rfl⟩
    have hzl : zs.length = n := by rw [← hz, List.length_mergeSort, hsl]
    rw [hz, hsl] at hsort
    have HSORT := hidden hsort
    have HSS := hidden hss
    have HZ := hidden hz
    have HZL := hidden hzl
    have HSL := hidden hsl
    have HB := hidden hb
    have HH3 := hidden h3
    clear hsort hss hz hzl hsl hb hown h4 hnn hH h3
    go_wp2_with fail
    refine HSORT.out.mono ?_
    clear HSORT
    rintro e w2 ⟨rfl, q, os, hw2⟩
    have hb2' : Hid (w2.heap[g]? = some (.cells (putCells encStr 0 zs.toArray cur) 9 (0, 0))) := by rw [hw2]; exact heap_sorted _ HB.out
    have HB2 := hb2'
    clear hb2'
    have hH2 : Holds encStr w2 g 0 zs.toArray := by
      have hb2 : w2.heap[g]? = some (.cells (putCells encStr 0 zs.toArray cur) 9 (0, 0)) := by rw [hw2]; exact heap_sorted _ HB.out
      have hsz := HH3.out
      exact holds_of_block hb2 (take_putCells cur zs (by rw [HZL.out]; omega))
    have hbel2 : Below w.heap.size w w2 := hbel.trans (by rw [hw2]; exact below_sorted hbel.size hbase)
    have hcomp := Tryz.slices_Compact_string g 0 c zs w2 hH2 (by rw [HZL.out]; omega) (by rw [HZL.out]; omega)
    rw [HZL.out] at hcomp
    have HC := hidden hcomp
    have HH2 := hidden hH2
    clear hcomp hw2 hH2 hbel
    go_wp2_with fail
    refine HC.out.mono ?_
    clear HC
    rintro e w3 ⟨rfl, q3, rfl⟩
    have hS : sortedL names = Lib.compact zs := by unfold sortedL; rw [HSS.out, HZ.out]
    have hL : (Lib.compact zs).length = (names.foldl insertS []).length := by rw [← sortedL_is, hS, List.length_map]
    have hcz := compact_length zs
    have hcells : StrRow (putRow encStr (Sort.ahead w2 q3) g 0 (Lib.compact zs ++ List.replicate (n - (Lib.compact zs).length) []).toArray) (some ⟨g, 0, none⟩) ((names.foldl insertS []).map Value.string) := fun _ => by
      have hb3 := heap_sorted (n := q3) (os := #[]) (Lib.compact zs ++ List.replicate (n - (Lib.compact zs).length) []).toArray HB2.out
      have eg : grow (putRow encStr (Sort.ahead w2 q3) g 0 (Lib.compact zs ++ List.replicate (n - (Lib.compact zs).length) []).toArray) #[] = putRow encStr (Sort.ahead w2 q3) g 0 (Lib.compact zs ++ List.replicate (n - (Lib.compact zs).length) []).toArray := by unfold grow; rw [Array.append_empty]
      rw [eg] at hb3
      refine ⟨g, _, _, rfl, hb3, fun i u hi => ?_⟩
      have hil : i < (names.foldl insertS []).length := by
        rcases Nat.lt_or_ge i (names.foldl insertS []).length with h | h
        · exact h
        · rw [List.getElem?_eq_none (by simpa using h)] at hi; cases hi
      have hic : i < (Lib.compact zs).length := by rw [hL]; exact hil
      have e1 := cell?_putRow encStr (Sort.ahead w2 q3) g 0 zs.toArray (Lib.compact zs ++ List.replicate (n - (Lib.compact zs).length) []).toArray HH2.out (by
        have := HZL.out
        simp; omega) i (by simp; omega)
      rw [Nat.zero_add] at e1
      unfold World.cell? at e1
      rw [hb3] at e1
      have e1' := show _ = _ from e1
      simp only [Option.isSome_none, Bool.false_eq_true, if_false] at e1'
      rw [e1']
      have e2 : (Lib.compact zs ++ List.replicate (n - (Lib.compact zs).length) []).toArray[i]! = (Lib.compact zs)[i] := by
        simp [List.getElem?_append_left hic, List.getElem?_eq_getElem hic]
      rw [e2, ← hi, ← sortedL_is, ← encStr_strL, hS, List.getElem?_map, List.getElem?_eq_getElem hic]
      rfl
    have hend : Hid (Sorted w names (.returned (.slice (some ⟨g, 0, none⟩) (Lib.compact zs).length c)) (putRow encStr (Sort.ahead w2 q3) g 0 (Lib.compact zs ++ List.replicate (n - (Lib.compact zs).length) []).toArray)) := by
      refine ⟨_, c, by rw [hL], hcells, hbel2.trans (below_putRow hbel2.size hbase)⟩
    clear hS hL hcz hcells
    go_wp2_with fail
    go_ret
    exact hend.out
open Go.RowKit Go.Lib
theorem grown_none {B : Nat} {w w' : World} (h : Below B w w') (hB : w.heap.size ≤ B) : w.grownBy w' none := ⟨h.os, h.tape, h.output, h.size, fun i hi _ => h.block i (by omega)⟩
theorem strCells_nums (s : ByteArray) : strCells s = (numsOf s).map (Value.int .u8) := by
  unfold strCells numsOf
  rw [List.map_map]; rfl
theorem whole_iff {names : List ByteArray} {N : List UInt8 → Option Nat} (hN : ∀ q, (N q).isSome = true ↔ q = [] ∨ ∃ x ∈ names, q <:+ x.data.toList) (y : ByteArray) :
    (∀ c, N (c :: y.data.toList) = none) ↔ ∀ z ∈ names, endsS z y = true → z = y := by
  constructor
  · intro h z hz he
    obtain ⟨u, hu⟩ := (endsS_iff z y).1 he
    rcases List.eq_nil_or_concat u with rfl | ⟨u', c, rfl⟩
    · rw [List.nil_append] at hu
      exact ByteArray.ext (Array.toList_inj.1 hu.symm)
    · exfalso
      have h1 : (N (c :: y.data.toList)).isSome = true := (hN _).2 (.inr ⟨z, hz, u', by simpa using hu⟩)
      rw [h c] at h1; cases h1
  · intro h c
    cases hc : N (c :: y.data.toList) with
    | none => rfl
    | some b =>
      exfalso
      rcases (hN _).1 (by rw [hc]; rfl) with h1 | ⟨x, hx, hs⟩
      · cases h1
      · obtain ⟨u, hu⟩ := hs
        have e := h x hx ((endsS_iff x y).2 ⟨u ++ [c], by simpa using hu⟩)
        subst e
        have := congrArg List.length hu
        simp at this
        omega
def TabledO (w : World) (l : List Int) (e : Ending) (w' : World) : Prop :=
  ∃ v, e = .returned v ∧ w'.ownsRow w.heap.size 5 1 v l.length (l.map (Value.int .u8)) ∧ Below w.heap.size w w'
theorem tabledO_none {w w1 : World} (hb : Below w.heap.size w w1) : TabledO w [] (.returned (.slice none 0 0)) w1 :=
  ⟨_, rfl, ⟨rfl, .inl ⟨rfl, rfl⟩⟩, hb⟩
theorem row_lowerT {w : World} {base base' : Nat} {e : TypeId} {size : Nat} {v : Value} {n : Nat} {xs : List Value} (h : w.ownsRow base e size v n xs) (hb : base' ≤ base) : w.ownsRow base' e size v n xs :=
  ⟨h.1, h.2.imp id fun ⟨g, cap, cur, h1, h2, h3⟩ => ⟨g, cap, cur, h1, Nat.le_trans hb h2, h3⟩⟩
theorem TabledO.of {w w2 wr : World} {v : Value} {l l' : List Int} (hown : wr.ownsRow w2.heap.size 5 1 v l.length (l.map (Value.int .u8))) (e : l' = l) (hb : Below w.heap.size w w2) (hbw : Below w2.heap.size w2 wr) : TabledO w l' (.returned v) wr := by
  subst e
  exact ⟨_, rfl, row_lowerT hown hb.size, hb.trans (hbw.mono hb.size)⟩
theorem nameTab_wf (names : List ByteArray) : ∀ x ∈ nameTab names, (Lit.int .u8 x).wf = true := fun x hx => by
  unfold nameTab at hx
  split at hx
  · exact wf_u8.mpr (tabBytes_wf _ _ x hx)
  · cases hx
theorem TabledO.tabled {w : World} {l : List Int} {e : Ending} {w' : World} (h : TabledO w l e w') (hwf : ∀ x ∈ l, (Lit.int .u8 x).wf = true) : Tabled w l e w' := by
  obtain ⟨v, rfl, hown, hb⟩ := h
  obtain ⟨a, c, rfl, hc, hm, hi⟩ := ints_of_own3 hown hwf
  exact ⟨a, c, rfl, hc, hm, hi, hb⟩
set_option maxRecDepth 100000 in
set_option maxHeartbeats 2000000 in
theorem nameTable_own (w : World) (B : Nat) (a : Option Addr) (cap : Nat) (names : List ByteArray) (h : Vals w B a (names.map Value.string)) (hB : B ≤ w.heap.size) (hn : names.length ≤ 9223372036854775807) (hs : ∀ x ∈ names, x.size ≤ maxLen) :
    Calls Tryz.prog 61 #[.slice a names.length cap] w (TabledO w (nameTab names)) := by
  have hvalid := namesValid_any w B a cap names h hn hs
  cases hok : namesOk names with
  | false =>
    have e : nameTab names = [] := by unfold nameTab; rw [hok]; rfl
    rw [hok] at hvalid
    rw [e]
    have HC := hidden hvalid
    clear hvalid h hs hok e
    go_enter Tryz.func61, Tryz.ntmps61
    go_wp2_with (go_at_call 91; refine HC.out.mono ?_; rintro e w1 ⟨rfl, rfl⟩)
    go_ret
    exact tabledO_none (Below.refl _ _)
  | true =>
  rw [hok] at hvalid
  have hok2 : (∀ x ∈ names, nameOk x.data.toList = true) ∧ names.length ≤ 40 := by
    simpa [namesOk, List.all_eq_true] using hok
  have h8 : ∀ x ∈ names, x.size ≤ 8 := fun x hx => nameOk_size (hok2.1 x hx)
  have hends := endsOf_any w B a cap names h hB hok2.2 h8
  have hsort := fun (W : World) (hW : Below w.heap.size w W) => sortedNames_any W B a cap names (h.below (hW.mono hB)) hok2.2
  obtain ⟨S, hS⟩ : ∃ S, names.foldl insertS [] = S := ⟨_, rfl⟩
  have hmem : ∀ x, x ∈ S ↔ x ∈ names := fun x => by rw [← hS, mem_fold_iff]; simp
  have hnd : S.Nodup := by rw [← hS]; exact sorted_nodup (sorted_fold names [] List.Pairwise.nil)
  have hS40 : S.length ≤ 40 := by rw [← hS]; have := fold_length names []; simp at this; omega
  have hS8 : ∀ x ∈ S, x.size ≤ 8 := fun x hx => h8 x ((hmem x).1 hx)
  have hT : nameTab names = tabBytes S S.length := by unfold nameTab; rw [if_pos hok, hS]
  rw [hT]
  obtain ⟨n, hN⟩ : ∃ n, n = names.length := ⟨_, rfl⟩
  obtain ⟨L, hL⟩ : ∃ L, L = S.length := ⟨_, rfl⟩
  rw [← hN] at hvalid hends hsort ⊢
  rw [← hL] at hS40 ⊢
  unfold Sorted at hsort
  rw [hS] at hsort
  rw [← hL] at hsort
  obtain ⟨i0, hi0, hz0, hz1, hz2⟩ := info_parts Tryz.info_u8
  have HC := hidden hvalid
  have HE := hidden hends
  have HSORT := hidden hsort
  have HMEM := hidden hmem
  have HND := hidden hnd
  have HS8 := hidden hS8
  have HLL := hidden hL
  clear hvalid hends hsort hmem hnd hS8 hL hT hS hN h8 hok2 hok h hs
  go_enter Tryz.func61, Tryz.ntmps61
  go_wp2_with (go_at_call 91; refine HC.out.mono ?_; rintro e w1 ⟨rfl, rfl⟩)
  refine HE.out.mono ?_
  clear HE HC
  rintro e w2 ⟨root, rfl, N, ht, hroot, hdom, hb2⟩
  have HT := hidden ht
  have HROOT := hidden hroot
  have HDOM := hidden hdom
  have hown0 : (w2.alloc (.cells #[.int .u8 0] 5)).ownsRow w2.heap.size 5 1 (.slice (some ⟨w2.heap.size, 0, none⟩) 1 1) ([0] : List Int).length (([0] : List Int).map (Value.int .u8)) :=
    World.ownsRow_lit (base := w2.heap.size) (e := 5) (size := 1) w2 #[.int .u8 0] 1 (Nat.le_refl _) (by unfold maxLen; omega) rfl
  have hb2a : Below w2.heap.size w2 (w2.alloc (.cells #[.int .u8 0] 5)) := (Below.refl _ _).alloc (Nat.le_refl _) _
  have hsort2 := HSORT.out _ (hb2.trans (hb2a.mono hb2.size))
  have HS2 := hidden hsort2
  have HOWN0 := hidden hown0
  clear ht hroot hdom hsort2 HSORT hown0
  go_wp2_with fail
  refine HS2.out.mono ?_
  clear HS2
  rintro e w3 ⟨a', c', rfl, hrow, hb3⟩
  have hown1 : w3.ownsRow w2.heap.size 5 1 (.slice (some ⟨w2.heap.size, 0, none⟩) 1 1) ([0] : List Int).length (([0] : List Int).map (Value.int .u8)) := HOWN0.out.kept (grown_none hb3 (Nat.le_refl _)) (.inr (by simp [Value.ownBlock]))
  have hb23 : Below w2.heap.size w2 w3 := hb2a.trans (hb3.mono hb2a.size)
  have HOWN1 := hidden hown1
  have HROW := hidden hrow
  clear hown1 HOWN0 hrow hb3 hb2a
  go_wp2_with fail
  go_loopw [4, 16] (fun v i wr => ∃ (m : Nat) (l : List Int), i = .int .i64 m ∧ m ≤ L ∧ wr.ownsRow w2.heap.size 5 1 v l.length (l.map (Value.int .u8)) ∧ Hid (l = tabBytes S m) ∧ l.length ≤ 1 + 10 * m ∧
    Hid (StrRow wr a' (S.map Value.string)) ∧ Below w2.heap.size w2 wr) (fun _ i _ => L - (intOf i).toNat)
  case atStart => exact ⟨0, [0], rfl, by omega, HOWN1.out, rfl, by simp, HROW, hb23⟩
  case round =>
    obtain ⟨m, l, rfl, hm, hown, hl, hlen, hrow, hbw⟩ := hrel
    clear HOWN1 HROW hb23
    by_cases hmL : m < L
    · have hmS : m < S.length := by rw [← HLL.out]; exact hmL
      have hi : (m : Int) < (L : Int) := by omega
      obtain ⟨b, rfl, hcell⟩ := hrow.out.at_ (i := m) (by simpa using hmS)
      obtain ⟨y, hy⟩ : ∃ y, S[m] = y := ⟨_, rfl⟩
      have cy : wr.cell? ⟨b, m, none⟩ = some (.string y) := by rw [← Nat.zero_add m, hcell]; simp [hy]
      have hyS : y ∈ S := by rw [← hy]; exact List.getElem_mem hmS
      have hy8 := HS8.out y hyS
      have HYD : Hid (S.getD m ⟨#[]⟩ = y) := by show _ = _; rw [← hy]; simp [List.getD, List.getElem?_eq_getElem hmS]
      have hkeep : keepB S m = true ↔ ∀ c, N (c :: y.data.toList) = none := by
        rw [keepB_kept HND.out hmS, hy, kept_iff, whole_iff HDOM.out]
        exact ⟨fun hh z hz => hh z ((HMEM.out z).2 hz), fun hh z hz => hh z ((HMEM.out z).1 hz)⟩
      have hcall := isWhole_any wr w.heap.size 400 root N (HT.out.kept (grown_none hbw (Nat.le_refl _))) HROOT.out y hy8 (fun j => (HDOM.out _).2 (.inr ⟨y, (HMEM.out y).1 hyS, List.drop_suffix _ _⟩)) (keepB S m) hkeep
      have HCALL := hidden hcall
      have HOWN := hidden hown
      clear hcall hkeep hcell hy hyS hmS hown
      go_wp2_with fail
      refine HCALL.out.mono ?_
      clear HCALL
      rintro e w4 ⟨rfl, q, hw4⟩
      have hown2 := HOWN.out.kept (w' := w4) (row := none) (grown_none (B := wr.heap.size) (by rw [hw4]; exact below_drewN (Below.refl _ _) q) (Nat.le_refl _)) (Classical.em _)
      have hrow2 : StrRow w4 (some ⟨b, 0, none⟩) (S.map Value.string) := by rw [hw4]; exact hrow.out
      have hbw2 : Below w2.heap.size w2 w4 := by rw [hw4]; exact below_drewN hbw q
      clear hw4 HOWN hrow hbw cy
      cases hk : keepB S m with
      | false =>
        have HK : Hid (l = tabBytes S (m + 1)) := by show _ = _; rw [hl.out]; simp [tabBytes, hk]
        have HR2 := hidden hrow2
        clear hrow2 hl hk
        go_wp2_with fail
        go_roundw
        case rel => exact ⟨m + 1, l, by go_num, by omega, hown2, HK, by omega, HR2, hbw2⟩
        case measure => simp [intOf]; omega
      | true =>
        have HK : Hid (tabBytes S (m + 1) = l ++ numsOf y ++ [0]) := by show _ = _; rw [tabBytes, if_pos hk, HYD.out, hl.out]
        have hnl := numsOf_length y
        have HROW2 := hidden hrow2
        have HOWN2 := hidden hown2
        have HNL := hidden hnl
        have hl1000 : l.length + y.size + 1 ≤ 1000 := by omega
        have s1 := hbw2.size
        have HB2 := hidden hbw2
        have Q3 : Hid (l.length + y.size ≤ maxLen) := by show _ ≤ _; unfold maxLen; omega
        have Q4 : Hid (l.length + y.size ≤ 140737488355328) := by show _ ≤ _; omega
        clear hrow2 hown2 hnl hl hk HYD
        go_wp2_with (at_builtin; refine wpList_append_own_string _ rfl (.tmp 23) (.tmp 24) 22 9 rfl w2.heap.size 5 i0 Tryz.underlying22 Tryz.underlying9 hi0 hz0 hz1 hz2 _ _ _ rfl HOWN2.out y rfl Q3.out Q4.out HB2.out.size ?_)
        intro v1 w5 hown3 hgrow1 _
        have hb3 : Below w2.heap.size w2 w5 := HB2.out.grown hgrow1 HB2.out.size (fun q hq => (HOWN2.out.lt q hq).1)
        have hrow3 : StrRow w5 (some ⟨b, 0, none⟩) (S.map Value.string) := HROW2.out.grown HOWN2.out hgrow1
        have HOWN3 := hidden hown3
        have HROW3 := hidden hrow3
        have HB3 := hidden hb3
        have s2 := hb3.size
        clear hown3 hgrow1 HROW2 HOWN2 HB2 hrow3 hb3
        go_wp2_with (at_builtin; refine wpList_append_own _ rfl (.tmp 26) (.tmp 27) 22 rfl w2.heap.size 5 i0 (.int .u8 0) 1 1 Tryz.underlying22 hi0 hz0 hz1 hz2 rfl (by decide) _ _ _ rfl (HOWN3.out.alloc _) ⟨w5.heap.size, 0, none⟩ 1 1 [.int .u8 0] rfl rfl ?f1 ?f2 ?f3 ?f4 ?f5 ?_)
        case f1 =>
          intro t u ht
          match t, ht with
          | 0, ht => simp at ht; subst ht; simp [Addr.add]
        case f2 => intro u hu; simp at hu; subst hu; rfl
        case f3 => unfold maxLen; omega
        case f4 => omega
        case f5 => simp; omega
        intro v2 w6 hown4 hgrow2 _
        have hb4 : Below w2.heap.size w2 w6 := (HB3.out.alloc HB3.out.size _).grown hgrow2 (by simp; omega) (fun q hq => (HOWN3.out.lt q hq).1)
        have hrow4 : StrRow w6 (some ⟨b, 0, none⟩) (S.map Value.string) := (HROW3.out.only (World.grownBy_alloc _ _ none)).grown (HOWN3.out.alloc _) hgrow2
        have hll : (l ++ numsOf y ++ [0]).length = l.length + y.size + 1 := by rw [List.length_append, List.length_append, HNL.out]; rfl
        have hown5 : w6.ownsRow w2.heap.size 5 1 v2 (l ++ numsOf y ++ [0]).length ((l ++ numsOf y ++ [0]).map (Value.int .u8)) := by
          rw [hll]
          rw [strCells_nums] at hown4
          simpa using hown4
        have HL5 := hidden hll
        have HKK := hidden HK.out.symm
        have HR4 := hidden hrow4
        clear hown4 hgrow2 HOWN3 HB3 hll HK HROW3 hrow4
        go_wp2_with fail
        go_roundw
        case rel => exact ⟨m + 1, l ++ numsOf y ++ [0], by go_num, by omega, hown5, HKK, by rw [HL5.out]; omega, HR4, hb4⟩
        case measure => simp [intOf]; omega
    · have hmn : m = L := by omega
      have hi : ¬ (m : Int) < (L : Int) := by omega
      have hfin := hidden (TabledO.of hown (show tabBytes S L = l by rw [hl.out, hmn]) hb2 hbw)
      clear hmn hown hl
      go_wp2_with fail
      go_ret
      exact hfin.out
theorem nameTable_any (w : World) (B : Nat) (a : Option Addr) (cap : Nat) (names : List ByteArray) (h : Vals w B a (names.map Value.string)) (hB : B ≤ w.heap.size) (hn : names.length ≤ 9223372036854775807) (hs : ∀ x ∈ names, x.size ≤ maxLen) :
    Calls Tryz.prog 61 #[.slice a names.length cap] w (Tabled w (nameTab names)) :=
  (nameTable_own w B a cap names h hB hn hs).mono fun _ _ h => h.tabled (nameTab_wf names)
open Go.RowKit
def WantNameTable : Prop := ∀ (w : World) (B : Nat) (a : Option Addr) (cap : Nat) (names : List ByteArray), Vals w B a (names.map Value.string) → B ≤ w.heap.size → names.length ≤ 9223372036854775807 → (∀ x ∈ names, x.size ≤ maxLen) →
  Calls Tryz.prog 61 #[.slice a names.length cap] w (Tabled w (nameTab names))
open Go.RowKit
theorem gotNameTable : WantNameTable := fun w B a cap names h hB hn hs => nameTable_any w B a cap names h hB hn hs

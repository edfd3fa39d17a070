/-
  spec.l6Fixups and spec.l6Names. spec.ObjectLength. The bytes of an object, and how many they are. Rows of bytes that are written one behind the other; what holds in the regions that write an object. What is wanted of impl.WriteObject, and plain words on the bytes of an object. spec.WriteObject.
-/
import Derived.IntWalk
import Derived.Deep.CutBlock
import Derived.Test.YtdmdjlnpbmiadaaGreatDoorObjV
import Derived.Test.YtdmdjlnpbmiadaaGreatDoorRegion
import Derived.Test.YtdmdjlnpbmiadaaGreatDoorDrawN
import Derived.Test.YtdmdjlnpbmiadaaGreatDoorTableS
import Derived.Test.YtdmdjlnpbmiadaaGreatDoorRegionV
import Derived.Test.YtdmdjlnpbmiadaaGreatDoorRowI
import Derived.Test.YtdmdjlnpbmiadaaGreatDoorHead
import Derived.Test.YtdmdjlnpbmiadaaGreatDoorFoundP
import Derived.Test.YtdmdjlnpbmiadaaGreatDoorPlaceS
import Derived.Test.YtdmdjlnpbmiadaaGreatDoorWant4
import Derived.Test.YtdmdjlnpbmiadaaGreatDoorBase
/- spec.l6Fixups and spec.l6Names. spec.ObjectLength. -/
/- spec.l6Fixups and spec.l6Names. -/
namespace Go.Proofs.YtdmdjlnpbmiadaaGreatDoor
open Go.RowKit

/-- How many fixups the sections have. -/
def manyFix (l : List Sp) : Nat := (l.map fun y => y.s.fixs.length).sum
/-- All names of an object. -/
def allNames (l : List Sp) (ms : List Sm) : List ByteArray := (l.map fun y => y.s.name) ++ ms.map Sm.name
theorem manyFix_snoc (l : List Sp) (k : Nat) (y : Sp) (h : l[k]? = some y) : manyFix (l.take (k + 1)) = manyFix (l.take k) + y.s.fixs.length := by
  unfold manyFix
  rw [List.take_add_one, h, List.map_append, List.sum_append]
  simp
theorem manyFix_le : ∀ (l : List Sp), (∀ y ∈ l, y.s.fixs.length ≤ 1000) → manyFix l ≤ 1000 * l.length
  | [], _ => by simp [manyFix]
  | y :: r, h => by
    have h1 := h y (by simp)
    have h2 := manyFix_le r (fun z hz => h z (by simp [hz]))
    unfold manyFix at h2 ⊢
    simp only [List.map_cons, List.sum_cons, List.length_cons]
    omega









































































































































































end Go.Proofs.YtdmdjlnpbmiadaaGreatDoor
/- spec.ObjectLength. -/
namespace Go.Proofs.YtdmdjlnpbmiadaaGreatDoor
open Go.RowKit

/-- How many bytes the sections have. -/
def manyBytes (l : List Sp) : Nat := (l.map fun y => y.s.bytes.length).sum
theorem manyBytes_snoc (l : List Sp) (k : Nat) (y : Sp) (h : l[k]? = some y) : manyBytes (l.take (k + 1)) = manyBytes (l.take k) + y.s.bytes.length := by
  unfold manyBytes
  rw [List.take_add_one, h, List.map_append, List.sum_append]
  simp
theorem manyBytes_le : ∀ (l : List Sp), (∀ y ∈ l, y.s.bytes.length ≤ 1000) → manyBytes l ≤ 1000 * l.length
  | [], _ => by simp [manyBytes]
  | y :: r, h => by
    have h1 := h y (by simp)
    have h2 := manyBytes_le r (fun z hz => h z (by simp [hz]))
    unfold manyBytes at h2 ⊢
    simp only [List.map_cons, List.sum_cons, List.length_cons]
    omega

/-- How many bytes an object takes. -/
def objLen (l : List Sp) (ms : List Sm) : Nat :=
  if objOk (l.map Sp.s) ms then 10 + 6 * l.length + 6 * ms.length + 5 * manyFix l + (nameTab (allNames l ms)).length + manyBytes l else 0
theorem nameTab_401' (names : List ByteArray) : (nameTab names).length ≤ 401 := by
  unfold nameTab
  split
  · rename_i hn
    simp only [namesOk, Bool.and_eq_true, decide_eq_true_eq, List.all_eq_true] at hn
    have h1 := fold_length names []
    have h2 := tabBytes_short (names.foldl insertS []) (fun x hx => by
      rcases mem_fold names [] x hx with h' | h'
      · simp at h'
      · have := nameOk_size (hn.1 x h'); omega) (names.foldl insertS []).length
    simp only [List.length_nil] at h1
    omega
  · simp
/-- Around the sum: what holds when so many of the chain are done. -/
structure JL (w2 : World) (base F K : Nat) (T : Int) (n m : Nat) (names : List ByteArray) (k : Nat) (W : World) (vals : Nat → Value) : Prop where
  below : Below w2.heap.size w2 W
  fix : vals 0 = .int .i64 F
  end_ : k = 6 → vals 5 = .int .i64 T
  row : k = 2 → W.ownsRow base 9 1 (vals 1) (n + m) (names.map Value.string)
  tab : k = 3 → ∃ a c, vals 2 = .slice a K c
  len : k = 4 → vals 3 = .int .i64 K
  all : k = 5 → vals 4 = .int .i64 T











































































































































































































































































end Go.Proofs.YtdmdjlnpbmiadaaGreatDoor
/- The bytes of an object, and how many they are. Rows of bytes that are written one behind the other; what holds in the regions that write an object. What is wanted of impl.WriteObject, and plain words on the bytes of an object. -/
/- The bytes of an object, and how many they are. -/
namespace Go.Proofs.YtdmdjlnpbmiadaaGreatDoor
open Go.RowKit

/-- The place of a name in a table. -/
def placeIn (t : List Int) (s : ByteArray) : Int := firstAt t s 0 t.length
def secBytes (t : List Int) (y : Sp) : List Int := putList (placeIn t y.s.name) 2 ++ [y.s.kind, y.s.align, y.s.long, (y.s.fixs.length : Int)]
def symBytes (t : List Int) (m : Sm) : List Int := putList (placeIn t m.name) 2 ++ ([m.bind, m.loc + 2] ++ putList m.value 2)
def fixBytes (f : Fx) : List Int := [f.pl, f.kind, f.to] ++ putList (f.add + 1000) 2
/-- The header of an object. -/
def headOf (l : List Sp) (ms : List Sm) (t : List Int) : Hd := ⟨l.length, ms.length, manyFix l, t.length⟩
/-- The bytes of an object. -/
def writeObj (l : List Sp) (ms : List Sm) : List Int :=
  if objOk (l.map Sp.s) ms then
    putHd (headOf l ms (nameTab (allNames l ms))) ++ (l.flatMap (secBytes (nameTab (allNames l ms))) ++ (ms.flatMap (symBytes (nameTab (allNames l ms))) ++ ((l.flatMap fun y => y.s.fixs.flatMap fixBytes) ++ (nameTab (allNames l ms) ++ l.flatMap fun y => y.s.bytes)))) else []
/-- What a valid object is told by. -/
structure ObjTold (l : List Sp) (ms : List Sm) : Prop where
  secs : l.length ≤ 8
  syms : ms.length ≤ 12
  sec : ∀ y ∈ l, sectOk y.s ms.length = true
  sym : ∀ m ∈ ms, symOk m (l.map Sp.s) = true
theorem objOk_told {l : List Sp} {ms : List Sm} (h : objOk (l.map Sp.s) ms = true) : ObjTold l ms := by
  unfold objOk at h
  simp only [Bool.and_eq_true, decide_eq_true_eq, List.length_map, List.all_eq_true] at h
  exact ⟨h.2.2.1, h.2.2.2, fun y hy => h.1 y.s (List.mem_map_of_mem hy), (symsOk_told _ ms [] h.2.1).1⟩
theorem fixs_add (n many : Int) : ∀ (e : Int) (fs : List Fx), fixsOk n many e fs = true → ∀ f ∈ fs, -1000 ≤ f.add ∧ f.add ≤ 1000
  | _, [], _, f, hf => by cases hf
  | e, g :: r, h, f, hf => by
    simp only [fixsOk, Bool.and_eq_true] at h
    rcases List.mem_cons.1 hf with rfl | hf
    · have := h.1
      unfold fixOk at this
      simp only [Bool.and_eq_true, decide_eq_true_eq] at this
      exact this.1.2
    · exact fixs_add n many _ r h.2 f hf
theorem sect_parts {s : Sx} {many : Int} (h : sectOk s many = true) : nameOk s.name.data.toList = true ∧ s.bytes.length ≤ 48 ∧ s.fixs.length ≤ 6 ∧ 0 ≤ s.long ∧ s.long ≤ 48 ∧ ∀ f ∈ s.fixs, -1000 ≤ f.add ∧ f.add ≤ 1000 := by
  unfold sectOk at h
  simp only [Bool.and_eq_true, decide_eq_true_eq] at h
  obtain ⟨⟨⟨⟨⟨⟨h1, h2⟩, h3⟩, h4⟩, h5⟩, h6⟩, h7⟩ := h
  refine ⟨h1, h4, h5, ?_, ?_, fun f hf => ?_⟩
  · unfold Sx.long; split <;> omega
  · unfold Sx.long; split <;> omega
  · split at h7
    · simp only [Bool.and_eq_true, decide_eq_true_eq] at h7
      have := List.eq_nil_of_length_eq_zero h7.2
      rw [this] at hf; cases hf
    · simp only [Bool.and_eq_true] at h7
      exact fixs_add _ _ _ _ h7.1 f hf
theorem names_ok {l : List Sp} {ms : List Sm} (h : ObjTold l ms) : namesOk (allNames l ms) = true := by
  unfold namesOk
  rw [Bool.and_eq_true, List.all_eq_true]
  refine ⟨fun x hx => ?_, ?_⟩
  · unfold allNames at hx
    rcases List.mem_append.1 hx with hx | hx
    · obtain ⟨y, hy, rfl⟩ := List.mem_map.1 hx; exact (sect_parts (h.sec y hy)).1
    · obtain ⟨y, hy, rfl⟩ := List.mem_map.1 hx
      have := h.sym y hy
      unfold symOk at this
      simp only [Bool.and_eq_true] at this
      exact this.1.1
  · have := h.secs; have := h.syms
    unfold allNames
    simp only [decide_eq_true_eq, List.length_append, List.length_map]
    omega
theorem tab_bounds {l : List Sp} {ms : List Sm} (h : ObjTold l ms) : 1 ≤ (nameTab (allNames l ms)).length ∧ (nameTab (allNames l ms)).length ≤ 400 := by
  have hok := names_ok h
  constructor
  · rcases Nat.eq_zero_or_pos (nameTab (allNames l ms)).length with e | e
    · have := nameTab_head hok
      rw [List.eq_nil_of_length_eq_zero e] at this
      simp at this
    · exact e
  · have h1 := fold_length (allNames l ms) []
    have h2 := tabBytes_short ((allNames l ms).foldl insertS []) (fun x hx => by
      rcases mem_fold (allNames l ms) [] x hx with h' | h'
      · simp at h'
      · unfold namesOk at hok
        simp only [Bool.and_eq_true, List.all_eq_true] at hok
        have := nameOk_size (hok.1 x h'); omega) ((allNames l ms).foldl insertS []).length
    have h3 : (allNames l ms).length ≤ 20 := by
      have := h.secs; have := h.syms
      unfold allNames
      simp only [List.length_append, List.length_map]
      omega
    unfold nameTab
    rw [if_pos hok]
    simp only [List.length_nil] at h1
    omega
theorem place_bounds {l : List Sp} {ms : List Sm} (h : ObjTold l ms) {s : ByteArray} (hs : s ∈ allNames l ms) : 0 ≤ placeIn (nameTab (allNames l ms)) s ∧ placeIn (nameTab (allNames l ms)) s < 65536 := by
  obtain ⟨q, hq, ht⟩ := nameTab_finds (names_ok h) hs
  have hb := (tab_bounds h).2
  unfold placeIn
  rw [hq]
  rcases e : textAt (nameTab (allNames l ms)) q with _ | t
  · rw [e] at ht; cases ht
  · have := textAt_ends e
    omega
theorem put2_length {n : Int} (h0 : 0 ≤ n) (h1 : n < 65536) : (putList n 2).length = 2 := by
  rw [putList_yes (by omega) (by omega) h0 (by show n < 65536; exact h1), bytesOf_length]; rfl
theorem flat_length {A : Type} (f : A → List Int) (k : Nat) : ∀ (l : List A), (∀ x ∈ l, (f x).length = k) → (l.flatMap f).length = k * l.length
  | [], _ => by simp
  | x :: r, h => by
    rw [List.flatMap_cons, List.length_append, h x (by simp), flat_length f k r (fun y hy => h y (by simp [hy])), List.length_cons, Nat.mul_succ, Nat.add_comm]
theorem sym_value {m : Sm} {l : List Sp} {ms : List Sm} (h : ObjTold l ms) (hm : m ∈ ms) : 0 ≤ m.value ∧ m.value < 65536 := by
  have := h.sym m hm
  unfold symOk at this
  simp only [Bool.and_eq_true] at this
  obtain ⟨-, hv⟩ := this
  split at hv
  · simp only [Bool.and_eq_true, decide_eq_true_eq] at hv; omega
  · split at hv
    · simp only [decide_eq_true_eq] at hv; omega
    · simp only [Bool.and_eq_true, decide_eq_true_eq] at hv
      rcases e : (l.map Sp.s)[m.loc.toNat]? with _ | x
      · rw [e] at hv; simp at hv; omega
      · rw [e] at hv
        simp only [Option.map_some, Option.getD_some] at hv
        obtain ⟨hi, hx⟩ := List.getElem?_eq_some_iff.1 e
        obtain ⟨y, hy, rfl⟩ := List.mem_map.1 (show x ∈ l.map Sp.s by rw [← hx]; exact List.getElem_mem hi)
        have := (sect_parts (h.sec y hy)).2.2.2.2.1
        omega
theorem manyFix_6 : ∀ (l : List Sp), (∀ y ∈ l, y.s.fixs.length ≤ 6) → manyFix l ≤ 6 * l.length
  | [], _ => by simp [manyFix]
  | y :: r, h => by
    have h1 := h y (by simp)
    have h2 := manyFix_6 r (fun z hz => h z (by simp [hz]))
    unfold manyFix at h2 ⊢
    simp only [List.map_cons, List.sum_cons, List.length_cons]
    omega
theorem head_ok {l : List Sp} {ms : List Sm} (h : ObjTold l ms) : hdOk (headOf l ms (nameTab (allNames l ms))) = true := by
  have h1 := h.secs
  have h2 := h.syms
  have h3 := manyFix_6 l (fun y hy => (sect_parts (h.sec y hy)).2.2.1)
  have h4 := tab_bounds h
  exact hdOk_iff.2 ⟨⟨by show (0 : Int) ≤ (l.length : Int); omega, by show (l.length : Int) ≤ 8; omega⟩, ⟨by show (0 : Int) ≤ (ms.length : Int); omega, by show (ms.length : Int) ≤ 12; omega⟩, ⟨by show (0 : Int) ≤ (manyFix l : Int); omega, by show (manyFix l : Int) ≤ 48; omega⟩, by show (1 : Int) ≤ ((nameTab (allNames l ms)).length : Int); omega, by show ((nameTab (allNames l ms)).length : Int) ≤ 400; omega⟩
theorem fix_flat : ∀ (l : List Sp) (many : Int), (∀ y ∈ l, sectOk y.s many = true) → (l.flatMap fun y => y.s.fixs.flatMap fixBytes).length = 5 * manyFix l
  | [], _, _ => by simp [manyFix]
  | y :: r, many, h => by
    have h1 := fix_flat r many (fun z hz => h z (by simp [hz]))
    have h2 : (y.s.fixs.flatMap fixBytes).length = 5 * y.s.fixs.length := flat_length fixBytes 5 _ fun f hf => by
      have := (sect_parts (h y (by simp))).2.2.2.2.2 f hf
      unfold fixBytes
      rw [List.length_append, put2_length (by omega) (by omega)]; rfl
    rw [List.flatMap_cons, List.length_append, h1, h2]
    unfold manyFix
    simp only [List.map_cons, List.sum_cons]
    omega
theorem bytes_flat : ∀ (l : List Sp), (l.flatMap fun y => y.s.bytes).length = manyBytes l
  | [] => by simp [manyBytes]
  | y :: r => by
    rw [List.flatMap_cons, List.length_append, bytes_flat r]
    unfold manyBytes
    simp only [List.map_cons, List.sum_cons]
theorem writeObj_length (l : List Sp) (ms : List Sm) : (writeObj l ms).length = objLen l ms := by
  unfold writeObj objLen
  split
  · rename_i hok
    have h := objOk_told hok
    have e1 : (putHd (headOf l ms (nameTab (allNames l ms)))).length = 10 := by unfold putHd; rw [if_pos (head_ok h)]; rfl
    have e2 : (l.flatMap (secBytes (nameTab (allNames l ms)))).length = 6 * l.length := flat_length _ 6 _ fun y hy => by
      have := place_bounds h (s := y.s.name) (by unfold allNames; exact List.mem_append.2 (.inl (List.mem_map.2 ⟨y, hy, rfl⟩)))
      unfold secBytes
      rw [List.length_append, put2_length this.1 this.2]; rfl
    have e3 : (ms.flatMap (symBytes (nameTab (allNames l ms)))).length = 6 * ms.length := flat_length _ 6 _ fun m hm => by
      have := place_bounds h (s := m.name) (by unfold allNames; exact List.mem_append.2 (.inr (List.mem_map.2 ⟨m, hm, rfl⟩)))
      have hv := sym_value h hm
      unfold symBytes
      rw [List.length_append, List.length_append, put2_length this.1 this.2, put2_length hv.1 hv.2]; rfl
    rw [List.length_append, List.length_append, List.length_append, List.length_append, List.length_append, e1, e2, e3, fix_flat l _ h.sec, bytes_flat]
    omega
  · rfl

end Go.Proofs.YtdmdjlnpbmiadaaGreatDoor
/- What holds in the regions that write an object. -/
namespace Go.Proofs.YtdmdjlnpbmiadaaGreatDoor
open Go.RowKit

/-- Four bytes of a section: a call, its answer as a byte, a list of bytes, the row with them, and the variable. -/
structure JA (wT : World) (b : Nat) (t : TypeId) (cs : Array Value) (v : Value) (N : Nat) (L : List Int) (long : Int) (cn : Nat) (ch : List Int) (k : Nat) (W : World) (vals : Nat → Value) : Prop where
  cs : CS wT W b t cs
  fix : vals 0 = .int .i64 long ∧ vals 1 = .int .u8 long
  row : k ≤ 3 → RowI W wT.heap.size v N L
  sl : k = 3 → ∃ q, vals 2 = .slice (some ⟨q, 0, none⟩) cn cn ∧ Ints W .u8 W.heap.size (some ⟨q, 0, none⟩) ch
  app : k = 4 → RowI W wT.heap.size (vals 3) (N + cn) (L ++ ch)
  fin : k = 5 → RowI W wT.heap.size (vals 4) (N + cn) (L ++ ch)
/-- A list of bytes, the row with them, a number's bytes, the row with them, and the variable. -/
structure JB (wT : World) (b : Nat) (t : TypeId) (cs : Array Value) (v : Value) (N : Nat) (L : List Int) (cn : Nat) (ch nb : List Int) (k : Nat) (W : World) (vals : Nat → Value) : Prop where
  cs : CS wT W b t cs
  row : k ≤ 1 → RowI W wT.heap.size v N L
  sl : k = 1 → ∃ q, vals 0 = .slice (some ⟨q, 0, none⟩) cn cn ∧ Ints W .u8 W.heap.size (some ⟨q, 0, none⟩) ch
  app : 2 ≤ k ∧ k ≤ 3 → RowI W wT.heap.size (vals 1) (N + cn) (L ++ ch)
  num : k = 3 → ∃ ad c, vals 2 = .slice ad 2 c ∧ Ints W .u8 W.heap.size ad nb
  app2 : k = 4 → RowI W wT.heap.size (vals 3) (N + cn + 2) (L ++ ch ++ nb)
  fin : k = 5 → RowI W wT.heap.size (vals 4) (N + cn + 2) (L ++ ch ++ nb)
/-- The header: how many fixups, the header's bytes, and the variable. -/
structure JH (wT : World) (F N : Nat) (L : List Int) (k : Nat) (W : World) (vals : Nat → Value) : Prop where
  below : Below wT.heap.size wT W
  fix : vals 0 = .int .i64 F
  head : k = 2 → RowI W wT.heap.size (vals 1) N L
  fin : k = 3 → RowI W wT.heap.size (vals 2) N L
theorem fixs_parts (n many : Int) : ∀ (e : Int) (fs : List Fx), 0 ≤ e → fixsOk n many e fs = true → ∀ f ∈ fs, (0 ≤ f.pl ∧ f.pl ≤ n) ∧ (1 ≤ f.kind ∧ f.kind ≤ 3) ∧ (0 ≤ f.to ∧ f.to < many) ∧ -1000 ≤ f.add ∧ f.add ≤ 1000
  | _, [], _, _, f, hf => by cases hf
  | e, g :: r, h0, h, f, hf => by
    simp only [fixsOk, Bool.and_eq_true] at h
    have hg := h.1
    unfold fixOk at hg
    simp only [Bool.and_eq_true, decide_eq_true_eq] at hg
    obtain ⟨⟨⟨⟨g1, g2⟩, g3⟩, g4⟩, g5⟩ := hg
    have hw := wideOf_bounds g.kind
    rcases List.mem_cons.1 hf with rfl | hf
    · refine ⟨by omega, ?_, ⟨g2, g3⟩, g4⟩
      unfold wideOf at g1
      split at g1
      · omega
      · split at g1
        · omega
        · split at g1
          · omega
          · exact absurd rfl g1
    · exact fixs_parts _ _ _ r (by omega) h.2 f hf
theorem sect_bytes {s : Sx} {many : Int} (h : sectOk s many = true) : (1 ≤ s.kind ∧ s.kind ≤ 3) ∧ (1 ≤ s.align ∧ s.align ≤ 8) ∧ ∀ f ∈ s.fixs, (0 ≤ f.pl ∧ f.pl ≤ 48) ∧ (1 ≤ f.kind ∧ f.kind ≤ 3) ∧ (0 ≤ f.to ∧ f.to < many) ∧ -1000 ≤ f.add ∧ f.add ≤ 1000 := by
  unfold sectOk at h
  simp only [Bool.and_eq_true, decide_eq_true_eq] at h
  obtain ⟨⟨⟨⟨⟨⟨h1, h2⟩, h3⟩, h4⟩, h5⟩, h6⟩, h7⟩ := h
  refine ⟨h2, by omega, fun f hf => ?_⟩
  split at h7
  · simp only [Bool.and_eq_true, decide_eq_true_eq] at h7
    have := List.eq_nil_of_length_eq_zero h7.2
    rw [this] at hf; cases hf
  · simp only [Bool.and_eq_true] at h7
    have := fixs_parts _ _ 0 _ (by omega) h7.1 f hf
    exact ⟨by omega, this.2⟩
theorem sym_bytes {m : Sm} {l : List Sp} {ms : List Sm} (h : ObjTold l ms) (hm : m ∈ ms) : (0 ≤ m.bind ∧ m.bind ≤ 2) ∧ -2 ≤ m.loc ∧ m.loc ≤ 8 := by
  have h8 := h.secs
  have := h.sym m hm
  unfold symOk at this
  simp only [Bool.and_eq_true, decide_eq_true_eq, List.length_map] at this
  obtain ⟨⟨-, hb⟩, hv⟩ := this
  refine ⟨hb, ?_⟩
  split at hv
  · omega
  · split at hv
    · omega
    · simp only [Bool.and_eq_true, decide_eq_true_eq] at hv; omega
theorem flat_snoc {A : Type} (f : A → List Int) {l : List A} {k : Nat} {y : A} (h : l[k]? = some y) : (l.take (k + 1)).flatMap f = (l.take k).flatMap f ++ f y := by
  rw [List.take_add_one, h, List.flatMap_append]
  simp

end Go.Proofs.YtdmdjlnpbmiadaaGreatDoor
/- What is wanted of impl.WriteObject, and plain words on the bytes of an object. -/
namespace Go.Proofs.YtdmdjlnpbmiadaaGreatDoor
open Go.RowKit





theorem nameTab_u8 (names : List ByteArray) : ∀ x ∈ nameTab names, (Lit.int .u8 x).wf = true := fun x hx => by
  unfold nameTab at hx
  split at hx
  · exact wf_u8.mpr (by have := tabBytes_wf _ _ x hx; omega)
  · cases hx
/-- The bytes of an object are bytes. -/
theorem writeObj_u8 (l : List Sp) (ms : List Sm) (hb : ∀ y ∈ l, ∀ x ∈ y.s.bytes, (Lit.int .u8 x).wf = true) : ∀ x ∈ writeObj l ms, (Lit.int .u8 x).wf = true := fun x hx => by
  unfold writeObj at hx
  split at hx
  · rename_i hok
    have h := objOk_told hok
    simp only [List.mem_append, List.mem_flatMap] at hx
    rcases hx with hx | ⟨y, hy, hx⟩ | ⟨m, hm, hx⟩ | ⟨y, hy, f, hf, hx⟩ | hx | ⟨y, hy, hx⟩
    · exact putHd_wf _ x hx
    · obtain ⟨p1, p2, p3, p4, p5, p6⟩ := sect_parts (h.sec y hy)
      obtain ⟨b1, b2, -⟩ := sect_bytes (h.sec y hy)
      unfold secBytes at hx
      rcases List.mem_append.1 hx with hx | hx
      · exact putList_wf _ _ x hx
      · simp only [List.mem_cons, List.not_mem_nil, or_false] at hx
        rcases hx with rfl | rfl | rfl | rfl <;> exact wf_u8.mpr ⟨by omega, by omega⟩
    · obtain ⟨b1, b2, b3⟩ := sym_bytes h hm
      unfold symBytes at hx
      rcases List.mem_append.1 hx with hx | hx
      · exact putList_wf _ _ x hx
      · rcases List.mem_append.1 hx with hx | hx
        · simp only [List.mem_cons, List.not_mem_nil, or_false] at hx
          rcases hx with rfl | rfl <;> exact wf_u8.mpr ⟨by omega, by omega⟩
        · exact putList_wf _ _ x hx
    · obtain ⟨b1, b2, ⟨b3, b4⟩, -⟩ := (sect_bytes (h.sec y hy)).2.2 f hf
      have h12 := h.syms
      unfold fixBytes at hx
      rcases List.mem_append.1 hx with hx | hx
      · simp only [List.mem_cons, List.not_mem_nil, or_false] at hx
        rcases hx with rfl | rfl | rfl <;> exact wf_u8.mpr ⟨by omega, by omega⟩
      · exact putList_wf _ _ x hx
    · exact nameTab_u8 _ x hx
    · exact hb y hy x hx
  · cases hx
theorem flat_same {l l' : List Sp} (f : Sx → List Int) (h : l'.map Sp.s = l.map Sp.s) : (l'.flatMap fun y => f y.s) = l.flatMap fun y => f y.s := by
  have e : ∀ q : List Sp, (q.flatMap fun y => f y.s) = (q.map Sp.s).flatMap f := fun q => by rw [List.flatMap_map]
  rw [e, e, h]
/-- They hang on nothing but the sections' own values. -/
theorem writeObj_same {l l' : List Sp} (ms : List Sm) (h : l'.map Sp.s = l.map Sp.s) : writeObj l' ms = writeObj l ms := by
  have e1 : allNames l' ms = allNames l ms := by
    have e : ∀ q : List Sp, allNames q ms = ((q.map Sp.s).map Sx.name) ++ ms.map Sm.name := fun q => by unfold allNames; rw [List.map_map]; rfl
    rw [e, e, h]
  have e2 : manyFix l' = manyFix l := by
    have e : ∀ q : List Sp, manyFix q = ((q.map Sp.s).map fun s => s.fixs.length).sum := fun q => by unfold manyFix; rw [List.map_map]; rfl
    rw [e, e, h]
  have e3 := length_same h
  unfold writeObj
  rw [h, e1]
  have e4 : headOf l' ms (nameTab (allNames l ms)) = headOf l ms (nameTab (allNames l ms)) := by unfold headOf; rw [e2, e3]
  rw [e4, show l'.flatMap (secBytes (nameTab (allNames l ms))) = l.flatMap (secBytes (nameTab (allNames l ms))) from flat_same (fun s => putList (placeIn (nameTab (allNames l ms)) s.name) 2 ++ [s.kind, s.align, s.long, (s.fixs.length : Int)]) h, flat_same (fun s => s.fixs.flatMap fixBytes) h, flat_same (fun s => s.bytes) h]
/-- They are few. -/
theorem writeObj_short (l : List Sp) (ms : List Sm) : (writeObj l ms).length ≤ 2000 := by
  rw [writeObj_length]
  unfold objLen
  split
  · rename_i hok
    have h := objOk_told hok
    have h1 := manyFix_6 l (fun y hy => (sect_parts (h.sec y hy)).2.2.1)
    have h2 := tab_bounds h
    have h3 : ∀ q : List Sp, (∀ y ∈ q, y.s.bytes.length ≤ 48) → manyBytes q ≤ 48 * q.length := by
      intro q
      induction q with
      | nil => intro _; simp [manyBytes]
      | cons y r ih =>
        intro hq
        have := hq y (by simp)
        have := ih (fun z hz => hq z (by simp [hz]))
        unfold manyBytes at this ⊢
        simp only [List.map_cons, List.sum_cons, List.length_cons]
        omega
    have h4 := h3 l (fun y hy => (sect_parts (h.sec y hy)).2.1)
    have := h.secs; have := h.syms
    omega
  · omega

end Go.Proofs.YtdmdjlnpbmiadaaGreatDoor
/- spec.WriteObject. -/
namespace Go.Proofs.YtdmdjlnpbmiadaaGreatDoor
open Go.RowKit






































































































































































































































































































































































































































































































































































































































































































































































































































































































end Go.Proofs.YtdmdjlnpbmiadaaGreatDoor

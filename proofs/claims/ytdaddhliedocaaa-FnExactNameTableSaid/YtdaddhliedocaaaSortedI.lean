/-
  Contract of impl.sortedNames.
-/
import Derived.Test.YtdaddhliedocaaaSortP
import Derived.Test.YtdaddhliedocaaaVals
import Derived.Test.YtdaddhliedocaaaMem
import Derived.Test.YtdaddhliedocaaaShelf
import Derived.Sort.OwnSorted
namespace Go.Proofs.Ytdaddhliedocaaa
open Go.RowKit Go.Sort

theorem encStr_data (s : ByteArray) : encStr s.data.toList = .string s := by
  show Value.string (strL s.data.toList) = _
  rw [strL_data]
theorem map_encStr (names : List ByteArray) : (names.map fun s => s.data.toList).map encStr = names.map Value.string := by
  rw [List.map_map]
  exact List.map_congr_left fun s _ => encStr_data s
theorem encStr_strL (l : List (List UInt8)) : l.map encStr = (l.map strL).map Value.string := by
  rw [List.map_map]; rfl
theorem compact_length (zs : List (List UInt8)) : (Lib.compact zs).length ≤ zs.length := by
  unfold Lib.compact Lib.compactUpTo
  rw [List.length_map]
  exact Nat.le_trans (List.length_filter_le _ _) (by simp)
theorem cell_lt' {w : World} {a : Addr} {v : Value} (h : w.cell? a = some v) : a.block < w.heap.size := by
  rcases Nat.lt_or_ge a.block w.heap.size with h1 | h1
  · exact h1
  · exfalso
    unfold World.cell? at h
    rw [Array.getElem?_eq_none h1] at h
    cases h
/-- The slice at address 'a' holds these cells, in a row of texts. -/
def StrRow (w : World) (a : Option Addr) (vs : List Value) : Prop :=
  0 < vs.length → ∃ (b : Nat) (cs : Array Value) (fr : Nat × Nat), a = some ⟨b, 0, none⟩ ∧ w.heap[b]? = some (.cells cs 9 fr) ∧ ∀ (i : Nat) (u : Value), vs[i]? = some u → cs[i]? = some u
section
variable {w w' : World} {a : Option Addr} {vs : List Value}
theorem StrRow.at_ (h : StrRow w a vs) {i : Nat} (hi : i < vs.length) : ∃ b, a = some ⟨b, 0, none⟩ ∧ w.cell? ⟨b, 0 + i, none⟩ = some vs[i] := by
  obtain ⟨b, cs, fr, ha, hb, hc⟩ := h (by omega)
  refine ⟨b, ha, ?_⟩
  unfold World.cell?
  rw [hb, Nat.zero_add]
  exact hc i _ (List.getElem?_eq_getElem hi)
theorem StrRow.drewN (h : StrRow w a vs) (n : Nat) : StrRow (w.drewN n) a vs := h
theorem StrRow.only (h : StrRow w a vs) (hg : w.grownBy w' none) : StrRow w' a vs := fun hn => by
  obtain ⟨b, cs, fr, ha, hb, hc⟩ := h hn
  exact ⟨b, cs, fr, ha, (hg.block b (Array.getElem?_eq_some_iff.1 hb).1 (by simp)).trans hb, hc⟩
/-- What is done to a row of bytes leaves it. -/
theorem StrRow.grown {base n : Nat} {v : Value} {xs : List Value} (h : StrRow w a vs) (ho : w.ownsRow base 5 1 v n xs) (hg : w.grownBy w' v.ownBlock) : StrRow w' a vs := fun hn => by
  obtain ⟨b, cs, fr, ha, hb, hc⟩ := h hn
  refine ⟨b, cs, fr, ha, (hg.block b (Array.getElem?_eq_some_iff.1 hb).1 (fun e => ?_)).trans hb, hc⟩
  rcases ho.2 with ⟨rfl, _⟩ | ⟨g, cap, cur, rfl, _, hh, _⟩
  · simp [Value.ownBlock] at e
  · have eg : b = g := by simpa [Value.ownBlock] using e
    subst eg
    rw [hb] at hh
    injection hh with hh
    injection hh with _ h2
    cases h2
end
/-- What sorting leaves: the sorted names, each once, in memory of its own. -/
def Sorted (w : World) (names : List ByteArray) (e : Ending) (w' : World) : Prop :=
  ∃ (a : Option Addr) (c : Nat), e = .returned (.slice a (names.foldl insertS []).length c) ∧ StrRow w' a ((names.foldl insertS []).map Value.string) ∧ Below w.heap.size w w'
theorem sorted_none {w w' : World} {a : Option Addr} {c : Nat} (h : Below w.heap.size w w') : Sorted w [] (.returned (.slice a 0 c)) w' :=
  ⟨a, c, rfl, fun h0 => by simp at h0, h⟩
theorem below_sorted {w : World} {B g n : Nat} {os : Array Obj} {d : Array (List UInt8)} (hB : B ≤ w.heap.size) (hg : B ≤ g) : Below B w (grow (putRow encStr (Sort.ahead w n) g 0 d) os) :=
  (Below.refl B w).grown (grownBy_sorted d) hB (fun k hk => by injection hk with hk; subst hk; exact hg)
theorem below_putRow {w : World} {B g n : Nat} {d : Array (List UInt8)} (hB : B ≤ w.heap.size) (hg : B ≤ g) : Below B w (putRow encStr (Sort.ahead w n) g 0 d) := by
  have h := below_sorted (n := n) (os := #[]) (d := d) hB hg
  have e : grow (putRow encStr (Sort.ahead w n) g 0 d) #[] = putRow encStr (Sort.ahead w n) g 0 d := by unfold grow; rw [Array.append_empty]
  rw [e] at h; exact h
set_option maxHeartbeats 1000000 in
theorem sortedNames_any (w : World) (B : Nat) (a : Option Addr) (cap : Nat) (names : List ByteArray) (h : Vals w B a (names.map Value.string)) (hn : names.length ≤ 40) :
    Calls Try.prog 44 #[.slice a names.length cap] w (Sorted w names) := by
  rcases Nat.eq_zero_or_pos names.length with h0 | hpos
  · obtain rfl : names = [] := List.eq_nil_of_length_eq_zero h0
    clear h hn h0
    rcases a with _ | a
    · go_enter Try.func44, Try.ntmps44
      go_wp2_with (first
        | (go_at_call 54; refine (Try.slices_Clone_string_nil _ _ _).mono ?_; rintro e w1 ⟨rfl, rfl⟩)
        | (go_at_call 55; refine (Try.slices_Sort_string_none _ _ _).mono ?_; rintro e w1 ⟨rfl, rfl⟩)
        | (go_at_call 56; refine (Try.slices_Compact_string_empty _ _ _).mono ?_; rintro e w1 ⟨rfl, rfl⟩))
      go_ret
      exact sorted_none (Below.refl _ _)
    · have hcl := Try.slices_Clone_string_zero a cap w
      have HCL := hidden hcl
      clear hcl
      go_enter Try.func44, Try.ntmps44
      go_wp2_with fail
      refine HCL.out.mono ?_
      clear HCL
      rintro e w1 ⟨v, rfl, hown, hnn, hbel⟩
      rcases hown.2 with ⟨hnil, _⟩ | ⟨g, c, cur, rfl, hbase, hb, h1, h2, h3, h4⟩
      · exact absurd hnil hnn
      clear hown hnn h4 h3 h2 h1 hb hbase
      go_wp2_with (first
        | (go_at_call 55; refine (Try.slices_Sort_string_none _ _ _).mono ?_; rintro e w1 ⟨rfl, rfl⟩)
        | (go_at_call 56; refine (Try.slices_Compact_string_empty _ _ _).mono ?_; rintro e w1 ⟨rfl, rfl⟩))
      go_ret
      exact sorted_none hbel
  · obtain ⟨b, off, rfl, hb, hc⟩ := h (by simpa using hpos)
    have hcl := Try.slices_Clone_string b off names.length cap names w (Nat.le_refl _) (by omega) (fun j hj => by
      apply hc j
      rw [List.getElem?_map, List.getElem?_eq_getElem hj]
      simp [List.getD, List.getElem?_eq_getElem hj])
    rw [List.take_length] at hcl
    obtain ⟨n, hN⟩ : ∃ n, n = names.length := ⟨_, rfl⟩
    rw [← hN] at hcl hn hpos ⊢
    have HN := hidden hN
    have HCL := hidden hcl
    clear hcl hN h hc hb
    go_enter Try.func44, Try.ntmps44
    go_wp2_with fail
    refine HCL.out.mono ?_
    clear HCL
    rintro e w1 ⟨v, rfl, hown, hnn, hbel⟩
    rcases hown.2 with ⟨hnil, _⟩ | ⟨g, c, cur, rfl, hbase, hb, h1, h2, h3, h4⟩
    · exact absurd hnil hnn
    have hgl : g < w1.heap.size := (Array.getElem?_eq_some_iff.1 hb).1
    obtain ⟨ss, hss⟩ : ∃ ss, (names.map fun s => s.data.toList) = ss := ⟨_, rfl⟩
    have hsl : ss.length = n := by rw [← hss, List.length_map, HN.out]
    have hH : Holds encStr w1 g 0 ss.toArray := holds_of_block hb (by
      rw [hsl, ← hss, map_encStr]; simpa using h4)
    have hsort := Try.slices_Sort_string g 0 c ss w1 hH hgl (by omega)
    obtain ⟨zs, hz⟩ : ∃ zs, ss.mergeSort (fun x y => decide (x ≤ y)) = zs := ⟨_, rfl⟩
    have hzl : zs.length = n := by rw [← hz, List.length_mergeSort, hsl]
    rw [hz, hsl] at hsort
    have HSORT := hidden hsort
    have HSS := hidden hss
    have HZ := hidden hz
    have HZL := hidden hzl
    have HSL := hidden hsl
    have HB := hidden hb
    have HH3 := hidden h3
    clear hsort hss hz hzl hsl hb hown h4 hnn hH h3
    go_wp2_with fail
    refine HSORT.out.mono ?_
    clear HSORT
    rintro e w2 ⟨rfl, q, os, hw2⟩
    have hb2' : Hid (w2.heap[g]? = some (.cells (putCells encStr 0 zs.toArray cur) 9 (0, 0))) := by rw [hw2]; exact heap_sorted _ HB.out
    have HB2 := hb2'
    clear hb2'
    have hH2 : Holds encStr w2 g 0 zs.toArray := by
      have hb2 : w2.heap[g]? = some (.cells (putCells encStr 0 zs.toArray cur) 9 (0, 0)) := by rw [hw2]; exact heap_sorted _ HB.out
      have hsz := HH3.out
      exact holds_of_block hb2 (take_putCells cur zs (by rw [HZL.out]; omega))
    have hbel2 : Below w.heap.size w w2 := hbel.trans (by rw [hw2]; exact below_sorted hbel.size hbase)
    have hcomp := Try.slices_Compact_string g 0 c zs w2 hH2 (by rw [HZL.out]; omega) (by rw [HZL.out]; omega)
    rw [HZL.out] at hcomp
    have HC := hidden hcomp
    have HH2 := hidden hH2
    clear hcomp hw2 hH2 hbel
    go_wp2_with fail
    refine HC.out.mono ?_
    clear HC
    rintro e w3 ⟨rfl, q3, rfl⟩
    have hS : sortedL names = Lib.compact zs := by unfold sortedL; rw [HSS.out, HZ.out]
    have hL : (Lib.compact zs).length = (names.foldl insertS []).length := by rw [← sortedL_is, hS, List.length_map]
    have hcz := compact_length zs
    have hcells : StrRow (putRow encStr (Sort.ahead w2 q3) g 0 (Lib.compact zs ++ List.replicate (n - (Lib.compact zs).length) []).toArray) (some ⟨g, 0, none⟩) ((names.foldl insertS []).map Value.string) := fun _ => by
      have hb3 := heap_sorted (n := q3) (os := #[]) (Lib.compact zs ++ List.replicate (n - (Lib.compact zs).length) []).toArray HB2.out
      have eg : grow (putRow encStr (Sort.ahead w2 q3) g 0 (Lib.compact zs ++ List.replicate (n - (Lib.compact zs).length) []).toArray) #[] = putRow encStr (Sort.ahead w2 q3) g 0 (Lib.compact zs ++ List.replicate (n - (Lib.compact zs).length) []).toArray := by unfold grow; rw [Array.append_empty]
      rw [eg] at hb3
      refine ⟨g, _, _, rfl, hb3, fun i u hi => ?_⟩
      have hil : i < (names.foldl insertS []).length := by
        rcases Nat.lt_or_ge i (names.foldl insertS []).length with h | h
        · exact h
        · rw [List.getElem?_eq_none (by simpa using h)] at hi; cases hi
      have hic : i < (Lib.compact zs).length := by rw [hL]; exact hil
      have e1 := cell?_putRow encStr (Sort.ahead w2 q3) g 0 zs.toArray (Lib.compact zs ++ List.replicate (n - (Lib.compact zs).length) []).toArray HH2.out (by
        have := HZL.out
        simp; omega) i (by simp; omega)
      rw [Nat.zero_add] at e1
      unfold World.cell? at e1
      rw [hb3] at e1
      have e1' := show _ = _ from e1
      simp only [Option.isSome_none, Bool.false_eq_true, if_false] at e1'
      rw [e1']
      have e2 : (Lib.compact zs ++ List.replicate (n - (Lib.compact zs).length) []).toArray[i]! = (Lib.compact zs)[i] := by
        simp [List.getElem?_append_left hic, List.getElem?_eq_getElem hic]
      rw [e2, ← hi, ← sortedL_is, ← encStr_strL, hS, List.getElem?_map, List.getElem?_eq_getElem hic]
      rfl
    have hend : Hid (Sorted w names (.returned (.slice (some ⟨g, 0, none⟩) (Lib.compact zs).length c)) (putRow encStr (Sort.ahead w2 q3) g 0 (Lib.compact zs ++ List.replicate (n - (Lib.compact zs).length) []).toArray)) := by
      refine ⟨_, c, by rw [hL], hcells, hbel2.trans (below_putRow hbel2.size hbase)⟩
    clear hS hL hcz hcells
    go_wp2_with fail
    go_ret
    exact hend.out

end Go.Proofs.Ytdaddhliedocaaa

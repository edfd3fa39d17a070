/-
  impl.openNames, impl.NamesWanted and impl.NamesGiven.
-/
import Derived.Test.YtjakkiidedmifaaObI
import Derived.Test.YtjakkiidedmifaaRegion
import Derived.Test.YtjakkiidedmifaaShelf
import Derived.Sort.OwnSorted
import Derived.Maps.AppendAt
namespace Go.Proofs.Ytjakkiidedmifaa
open Go.RowKit Go.Maps Go.Sort

theorem keyOf_text {key : Value} {kl : Lit} (h : keyOf Try.prog 9 key = some kl) : ∃ s : ByteArray, key = .string s := by
  have hk : (Try.prog).underlying 9 = some .string := Try.underlying9
  cases key <;> simp [keyOf, hk, mapKey] at h
  rename_i s
  exact ⟨s, rfl⟩
theorem keyOf_kl {s : ByteArray} {kl : Lit} (h : keyOf Try.prog 9 (.string s) = some kl) : kl = klS s ∧ s.size ≤ maxLen := by
  have hk : (Try.prog).underlying 9 = some .string := Try.underlying9
  simp [keyOf, hk, mapKey] at h
  exact ⟨h.2.symm, h.1⟩
theorem encStr_text (s : ByteArray) : encStr s.data.toList = .string s := by
  show Value.string (strL s.data.toList) = _
  rw [strL_data]
theorem map_encText (ns : List ByteArray) : (ns.map fun s => s.data.toList).map encStr = ns.map Value.string := by
  rw [List.map_map]
  exact List.map_congr_left fun s _ => encStr_text s
theorem encStr_strM (l : List (List UInt8)) : l.map encStr = (l.map strL).map Value.string := by
  rw [List.map_map]; rfl
/-- What a sort leaves of a row of names. -/
theorem fresh_sorted {w wr w2 : World} {g cap k : Nat} {cur : Array Value} {os : Array Obj} {ns names : List ByteArray} (hb : wr.heap[g]? = some (.cells cur 9 (0, 0))) (hg : w.heap.size ≤ g) (hsz : ns.length ≤ cur.size) (hn : ns.Nodup) (hm : ∀ s, s ∈ ns ↔ s ∈ names)
    (hw2 : w2 = grow (putRow encStr (Sort.ahead wr k) g 0 ((ns.map fun s => s.data.toList).mergeSort fun x y => decide (x ≤ y)).toArray) os) (hbel : Below w.heap.size w wr) :
    FreshS w (names.foldl insertS []) (.returned (.slice (some ⟨g, 0, none⟩) ns.length cap)) w2 := by
  obtain ⟨zs, hz⟩ : ∃ zs, (ns.map fun s => s.data.toList).mergeSort (fun x y => decide (x ≤ y)) = zs := ⟨_, rfl⟩
  have hS := sorted_once hn hm
  have hzl : zs.length = ns.length := by rw [← hz, List.length_mergeSort, List.length_map]
  rw [hz] at hw2 hS
  have hL : (names.foldl insertS []).length = ns.length := by rw [← hS, List.length_map, hzl]
  have hb2 : w2.heap[g]? = some (.cells (putCells encStr 0 zs.toArray cur) 9 (0, 0)) := by rw [hw2]; exact heap_sorted _ hb
  have ht : (putCells encStr 0 zs.toArray cur).toList.take zs.length = zs.map encStr := take_putCells cur zs (by omega)
  refine ⟨some ⟨g, 0, none⟩, cap, by rw [hL], fun _ => ⟨g, _, rfl, hg, hb2, ?_, fun i s hi => ?_⟩, ?_⟩
  · rw [hL]
    have h1 := congrArg List.length ht
    rw [List.length_take, List.length_map, hzl] at h1
    have h2 : (putCells encStr 0 zs.toArray cur).toList.length = (putCells encStr 0 zs.toArray cur).size := Array.length_toList
    omega
  · have hil : i < zs.length := by
      rcases Nat.lt_or_ge i zs.length with h | h
      · exact h
      · rw [List.getElem?_eq_none (by rw [hL, ← hzl]; exact h)] at hi; cases hi
    have h1 := congrArg (fun l : List Value => l[i]?) ht
    simp only [List.getElem?_take, hil, if_true] at h1
    rw [encStr_strM, hS, List.getElem?_map, hi, Array.getElem?_toList] at h1
    exact h1
  · rw [hw2]
    exact hbel.trans ((Below.refl _ _).grown (grownBy_sorted _) hbel.size (fun j hj => by injection hj with hj; subst hj; exact hg))
theorem fresh_none {w w' : World} {a : Option Addr} {c : Nat} (h : Below w.heap.size w w') : FreshS w [] (.returned (.slice a 0 c)) w' :=
  ⟨a, c, rfl, fun h0 => absurd h0 (by simp), h⟩
theorem wanted_test (w : World) (nm : ByteArray) (bd lo va : Int) :
    Calls Try.prog 54 #[.agg #[.string nm, .int .i64 bd, .int .i64 lo, .int .i64 va]] w fun e w' => e = .returned (.bool (decide (lo = -1))) ∧ Below w.heap.size w w' := by
  go_enter Try.func54, Try.ntmps54
  go_wp2_with fail
  go_ret
  exact ⟨ret_bool (by by_cases e : lo = -1 <;> simp [e]), (Below.refl _ _).alloc (Nat.le_refl _) _⟩
set_option maxRecDepth 100000 in
set_option maxHeartbeats 4000000 in
theorem openNames_wanted (tq : Sm → Bool) (htq : ∀ x : Sm, tq x = decide (x.loc = -1)) (w : World) (B : Nat) (a1 a2 : Option Addr) (c1 c2 n m : Nat) (l : List Sp) (ms : List Sm) (hn : n = l.length) (hm : m = ms.length) (h1 : Sects w B a1 l) (h2 : Syms w B a2 ms) (hB : B ≤ w.heap.size) (hlen : n ≤ 9223372036854775807) (hlem : m ≤ 9223372036854775807)
    (hl : ∀ y ∈ l, y.s.fits) (hs : ∀ x ∈ ms, x.fits) :
    Calls Try.prog 41 #[.agg #[.slice a1 n c1, .slice a2 m c2], .func (.func 54) #[] #[]] w (FreshS w (if objOk (l.map Sp.s) ms then (((opens ms).filter tq).map Sm.name).foldl insertS [] else [])) := by
  obtain ⟨i0, hi, hz0, hz1, hz2⟩ := info_parts Try.info_str
  have hb0 : Below w.heap.size w (w.alloc (.cells #[.slice a1 n c1, .slice a2 m c2] 26)) := (Below.refl _ _).alloc (Nat.le_refl _) _
  have hC := openSymbols_any (w.alloc (.cells #[.slice a1 n c1, .slice a2 m c2] 26)) B a1 a2 c1 c2 n m l ms hn hm (h1.below (hb0.mono hB)) (h2.below (hb0.mono hB)) (Nat.le_trans hB hb0.size) hlen hlem hl hs
  obtain ⟨ok, hok⟩ : ∃ ok, objOk (l.map Sp.s) ms = ok := ⟨_, rfl⟩
  rw [hok] at hC ⊢
  obtain ⟨RS, hRS⟩ : ∃ RS, (if ok then (((opens ms).filter tq).map Sm.name).foldl insertS [] else []) = RS := ⟨_, rfl⟩
  rw [hRS]
  have HRS := hidden hRS
  clear hRS
  have HQ := hidden htq
  have HC := hidden hC
  clear hC hok hn hm h1 h2 hl hs hB htq
  go_enter Try.func41, Try.ntmps41
  go_wp2_with fail
  refine HC.out.mono ?_
  clear HC
  rintro e w1 ⟨hb1, hf, ht⟩
  have hbx := hidden (hb0.trans (hb1.mono hb0.size))
  rcases ok with _ | _
  · obtain rfl := hf rfl
    have HE : Hid (RS = []) := HRS.out.symm
    clear hf ht hb0 hb1 HRS
    go_wp2_with fail
    go_ret
    rw [HE.out]
    exact fresh_none hbx.out
  obtain ⟨mb, D, rfl, hmb, hm12, hmap⟩ := ht rfl
  have HRT : Hid (RS = (((opens ms).filter tq).map Sm.name).foldl insertS []) := HRS.out.symm
  have hown := hmap.own
  have hbl := hown.lt
  have HMAP := hidden hmap
  have HSZ : Hid (Maps.size D ≤ 12) := hown.size_le
  have HMB : Hid (w.heap.size + 1 ≤ mb) := by show _ ≤ _; simpa using hmb
  clear hf ht hmap hmb hm12 hb0 hb1 HRS
  go_wp2_with (at_range; refine wpList_range_own _ rfl _ 91 rfl 9 37 Try.law_str Try.underlying91 symElem mb 12 D rfl hown ?_; intro w0 hrg0 hg0 hs0)
  go_frame
  have HR0 := hidden hrg0
  have hbx0 : Hid (Below w.heap.size w w0) := hbx.out.grown hg0 hbx.out.size (fun j hj => by cases hj)
  have hs0' : Hid (w1.heap.size ≤ w0.heap.size) := hg0.size
  clear hrg0 hg0 hs0
  go_loopw [7] (fun v wr => ∃ (left : Lit → Bool) (cnt : Nat) (ns : List ByteArray), Hid (wr.ranges Try.prog 9 symElem mb w1.heap.size 12 D left cnt) ∧ ns.length + cnt ≤ 12 ∧ Hid (wr.ownsRow w1.heap.size 9 1 v ns.length (ns.map Value.string)) ∧ Hid (Met tq (opens ms) left ns) ∧ Hid (Below w.heap.size w wr) ∧ Hid (w1.heap.size ≤ wr.heap.size)) (fun _ wr => wr.rangeLeft mb w1.heap.size)
  case atStart => exact ⟨_, _, [], HR0.out, by simpa using HSZ.out, World.ownsRow_nil _ _ _ _, Met.start HMAP.out, hbx0.out, hs0'.out⟩
  case round =>
    obtain ⟨left, cnt, ns, hrg, hcs, hrow, hM, hbw, hws⟩ := hrel
    clear HR0 hbx0 hs0'
    go_wp2_with (at_next; refine wpList_next_ranges _ rfl _ rfl 9 Try.law_str symElem Value.string Sm.agg (fun key kl hk => keyOf_text hk) (fun v y hv => symElem_inv hv) mb w1.heap.size 12 _ _ _ rfl hrg.out ?_ ?_)
    · intro hc0 hl0
      have hmem := hidden (fun s => hM.out.done hl0 s)
      have hnd := hidden hM.out.once
      rcases hrow.out.2 with ⟨rfl, hnil⟩ | ⟨g, cap, cur, rfl, hbase, hb, h1, h2, h3, h4⟩
      · have hn0 : ns = [] := List.eq_nil_of_length_eq_zero hnil
        have HE : Hid (((((opens ms).filter tq).map Sm.name)).foldl insertS [] = []) := by
          have e : ((opens ms).filter tq).map Sm.name = [] := List.eq_nil_iff_forall_not_mem.2 fun s hs => by have := (hmem.out s).2 hs; rw [hn0] at this; cases this
          show _ = _
          rw [e]; rfl
        clear hc0 hl0 hn0 hnil hrow hrg hM hmem hnd
        go_wp2_with (go_at_call 66; refine (Try.slices_Sort_string_none _ _ _).mono ?_; rintro e w3 ⟨rfl, rfl⟩)
        go_ret
        rw [HRT.out, HE.out]
        exact fresh_none hbw.out
      · have hH : Holds encStr wr g 0 (ns.map fun s => s.data.toList).toArray := holds_of_block hb (by rw [List.length_map, map_encText]; simpa using h4)
        have hgl : g < wr.heap.size := (Array.getElem?_eq_some_iff.1 hb).1
        have hsort := Try.slices_Sort_string g 0 cap (ns.map fun s => s.data.toList) wr hH hgl (by rw [List.length_map]; omega)
        rw [List.length_map] at hsort
        obtain ⟨k, hk⟩ : ∃ k, ns.length = k := ⟨_, rfl⟩
        have HFS : Hid (∀ (w2 : World) (x : Nat) (os : Array Obj), w2 = grow (putRow encStr (Sort.ahead wr x) g 0 ((ns.map fun s => s.data.toList).mergeSort fun x y => decide (x ≤ y)).toArray) os → FreshS w RS (.returned (.slice (some ⟨g, 0, none⟩) ns.length cap)) w2) := hidden (fun (w2 : World) (x : Nat) (os : Array Obj) (e : w2 = grow (putRow encStr (Sort.ahead wr x) g 0 ((ns.map fun s => s.data.toList).mergeSort fun x y => decide (x ≤ y)).toArray) os) => by rw [HRT.out]; exact fresh_sorted (cap := cap) hb (show w.heap.size ≤ g by have := HMB.out; omega) (by rw [h3]; simpa using h1) hnd.out hmem.out e hbw.out)
        rw [hk] at hsort HFS ⊢
        have HSORT := hidden hsort
        clear hc0 hl0 hrow hrg hM hmem hnd hH hgl hsort h1 h2 h3 h4 hb hbase hcs hk
        go_wp2_with fail
        refine HSORT.out.mono ?_
        rintro e w2 ⟨rfl, x, os, hw2⟩
        have HF := hidden (HFS.out w2 x os hw2)
        clear HSORT HFS hw2
        go_wp2_with fail
        go_ret
        exact HF.out
    · intro x c kl yd yp w2 cnt2 hkey hlk hv hat hrg2 hlt hg2 hs2 hen
      obtain ⟨rfl, hxs⟩ := keyOf_kl hkey
      obtain ⟨rfl, rfl⟩ : yd = symD c ∧ yp = [] := by have e := Option.some.inj (hv.symm.trans (symElem_mk c)); exact ⟨congrArg Prod.fst e, congrArg Prod.snd e⟩
      obtain ⟨-, rfl⟩ := HMAP.out.found hat
      obtain ⟨tk, htk⟩ : ∃ tk, tq c = tk := ⟨_, rfl⟩
      have hM2 : Hid (Met tq (opens ms) (fun z => left z && !z.sameKey (klS c.name)) (if tk then ns ++ [c.name] else ns)) := by
        show Met _ _ _ _
        rcases tk with _ | _
        · exact hM.out.left_ HMAP.out hlk hat htk
        · exact hM.out.took HMAP.out hlk hat htk
      obtain ⟨nm, bd, lo, va⟩ := c
      simp only at htk hxs hM2 hrg2
      unfold Sm.agg at hen
      have hrow2 := hidden (hrow.out.kept hg2 (Or.inr (row_ne_iter hrow.out hrg.out).symm))
      have hbw2 := hidden (hbw.out.grown hg2 hbw.out.size (fun j hj => by injection hj with hj; subst hj; have := HMB.out; omega))
      have hws2 : Hid (w1.heap.size ≤ w2.heap.size) := Nat.le_trans hws.out hg2.size
      have HR2 := hidden hrg2
      have hmeas : Hid (cnt2 < wr.rangeLeft mb w1.heap.size) := by show _ < _; rw [hrg.out.left_eq]; exact hlt
      have hcs2 : ns.length + 1 + cnt2 ≤ 12 := by omega
      have hT := wanted_test (w2.alloc (.cells #[.string nm, .int .i64 bd, .int .i64 lo, .int .i64 va] 37)) nm bd lo va
      have htk2 : decide (lo = -1) = tk := by rw [← htk]; exact (HQ.out ⟨nm, bd, lo, va⟩).symm
      rw [htk2] at hT
      have HT := hidden hT
      clear hT htk htk2 hkey hlk hv hat hrg2 hlt hg2 hs2 hrow hbw hws hrg hM hcs
      unfold Sm.agg
      go_wp2_with fail
      refine HT.out.mono ?_
      clear HT
      rintro e w3 ⟨rfl, hb3⟩
      have hW3 : Below w2.heap.size w2 w3 := ((Below.refl _ _).alloc (Nat.le_refl _) _).trans (hb3.mono (by simp))
      have hg3 := grown_below hW3
      have hrow3 := hidden (hrow2.out.kept hg3 (Classical.em _))
      have HR3 := hidden (HR2.out.kept hg3 (by simp) (by simp))
      have hbw3 := hidden (hbw2.out.trans (hW3.mono hbw2.out.size))
      have hws3 : Hid (w1.heap.size ≤ w3.heap.size) := Nat.le_trans hws2.out hW3.size
      clear hen hb3 hW3 hg3 hrow2 HR2 hbw2 hws2
      rcases tk with _ | _
      · have hM3 : Hid (Met tq (opens ms) (fun z => left z && !z.sameKey (klS nm)) ns) := by have e := hM2.out; simp at e; exact e
        clear hM2
        go_wp2_with fail
        go_roundw
        case rel => exact ⟨_, cnt2, ns, HR3, by omega, hrow3, hM3, hbw3, hws3⟩
        case measure => rw [HR3.out.left_eq]; exact hmeas.out
      · have hM3 : Hid (Met tq (opens ms) (fun z => left z && !z.sameKey (klS nm)) (ns ++ [nm])) := by have e := hM2.out; simp at e; exact e
        clear hM2
        go_wp2_with (at_builtin; refine wpList_append_own _ rfl _ _ 28 rfl w1.heap.size 9 i0 (.string ⟨#[]⟩) 1 16 Try.underlying28 hi hz0 hz1 hz2 rfl (by decide) _ _ _ rfl (hrow3.out.alloc _) ⟨w3.heap.size, 0, none⟩ 1 1 [.string nm] rfl rfl (cell_one_new _ _ _) (by simp [Value.oneCell']) (by unfold maxLen; omega) (by omega) (by have := hws3.out; simp; omega) ?_; intro v' w4 hown4 hg4 hnil4; go_frame)
        have hrg4 := (HR3.out.alloc _).kept hg4 (row_ne_low hrow3.out hbl) (row_ne_iter hrow3.out HR3.out)
        have hown5 : w4.ownsRow w1.heap.size 9 1 v' (ns ++ [nm]).length ((ns ++ [nm]).map Value.string) := by simpa using hown4
        have hbw4 : Below w.heap.size w w4 := (hbw3.out.alloc hbw3.out.size _).grown hg4 (hbw3.out.alloc hbw3.out.size _).size (fun j hj => by have h5 := (hrow3.out.lt j hj).1; have h6 := HMB.out; omega)
        have hws4 : w1.heap.size ≤ w4.heap.size := by have h5 := hg4.size; have h6 := hws3.out; simp at h5; omega
        have hlen4 : (ns ++ [nm]).length + cnt2 ≤ 12 := by simp; omega
        have HR4 := hidden hrg4
        have HO5 := hidden hown5
        have HB4 := hidden hbw4
        have HW4 := hidden hws4
        clear hrg4 hown4 hown5 hg4 hnil4 hbw4 hws4
        go_roundw
        case rel => exact ⟨_, cnt2, ns ++ [nm], HR4, hlen4, HO5, hM3, HB4, HW4⟩
        case measure => rw [HR4.out.left_eq]; exact hmeas.out
set_option maxHeartbeats 1000000 in
theorem wanted_any (w : World) (B : Nat) (a1 a2 : Option Addr) (c1 c2 n m : Nat) (l : List Sp) (ms : List Sm) (hn : n = l.length) (hm : m = ms.length) (h1 : Sects w B a1 l) (h2 : Syms w B a2 ms) (hB : B ≤ w.heap.size) (hlen : n ≤ 9223372036854775807) (hlem : m ≤ 9223372036854775807)
    (hl : ∀ y ∈ l, y.s.fits) (hs : ∀ x ∈ ms, x.fits) :
    Calls Try.prog 30 #[.agg #[.slice a1 n c1, .slice a2 m c2]] w (FreshS w (if objOk (l.map Sp.s) ms then (((opens ms).filter (fun m : Sm => decide (m.loc = -1))).map Sm.name).foldl insertS [] else [])) := by
  have hb0 : Below w.heap.size w (w.alloc (.cells #[.slice a1 n c1, .slice a2 m c2] 26)) := (Below.refl _ _).alloc (Nat.le_refl _) _
  have HC := hidden (openNames_wanted (fun m : Sm => decide (m.loc = -1)) (fun _ => rfl) (w.alloc (.cells #[.slice a1 n c1, .slice a2 m c2] 26)) B a1 a2 c1 c2 n m l ms hn hm (h1.below (hb0.mono hB)) (h2.below (hb0.mono hB)) (Nat.le_trans hB hb0.size) hlen hlem hl hs)
  obtain ⟨S, hS⟩ : ∃ S, (if objOk (l.map Sp.s) ms then (((opens ms).filter (fun m : Sm => decide (m.loc = -1))).map Sm.name).foldl insertS [] else []) = S := ⟨_, rfl⟩
  rw [hS] at HC ⊢
  clear hS hn hm h1 h2 hl hs hB
  go_enter Try.func30, Try.ntmps30
  go_wp2_with fail
  refine HC.out.mono ?_
  clear HC
  rintro e w1 ⟨a, c, rfl, hrow, hb1⟩
  have HF : Hid (FreshS w S (.returned (.slice a S.length c)) w1) := ⟨a, c, rfl, fun h => by
    obtain ⟨g, cs, h1, h2, h3⟩ := hrow h
    exact ⟨g, cs, h1, Nat.le_trans hb0.size h2, h3⟩, hb0.trans (hb1.mono hb0.size)⟩
  obtain ⟨k, hk⟩ : ∃ k, S.length = k := ⟨_, rfl⟩
  rw [hk] at HF
  clear hrow hb0 hb1
  rw [hk]
  go_wp2_with fail
  go_ret
  exact HF.out
theorem given_test (w : World) (nm : ByteArray) (bd lo va : Int) :
    Calls Try.prog 42 #[.agg #[.string nm, .int .i64 bd, .int .i64 lo, .int .i64 va]] w fun e w' => e = .returned (.bool (decide (lo ≠ -1))) ∧ Below w.heap.size w w' := by
  go_enter Try.func42, Try.ntmps42
  go_wp2_with fail
  go_ret
  exact ⟨ret_bool (by by_cases e : lo = -1 <;> simp [e]), (Below.refl _ _).alloc (Nat.le_refl _) _⟩
set_option maxRecDepth 100000 in
set_option maxHeartbeats 4000000 in
theorem openNames_given (tq : Sm → Bool) (htq : ∀ x : Sm, tq x = decide (x.loc ≠ -1)) (w : World) (B : Nat) (a1 a2 : Option Addr) (c1 c2 n m : Nat) (l : List Sp) (ms : List Sm) (hn : n = l.length) (hm : m = ms.length) (h1 : Sects w B a1 l) (h2 : Syms w B a2 ms) (hB : B ≤ w.heap.size) (hlen : n ≤ 9223372036854775807) (hlem : m ≤ 9223372036854775807)
    (hl : ∀ y ∈ l, y.s.fits) (hs : ∀ x ∈ ms, x.fits) :
    Calls Try.prog 41 #[.agg #[.slice a1 n c1, .slice a2 m c2], .func (.func 42) #[] #[]] w (FreshS w (if objOk (l.map Sp.s) ms then (((opens ms).filter tq).map Sm.name).foldl insertS [] else [])) := by
  obtain ⟨i0, hi, hz0, hz1, hz2⟩ := info_parts Try.info_str
  have hb0 : Below w.heap.size w (w.alloc (.cells #[.slice a1 n c1, .slice a2 m c2] 26)) := (Below.refl _ _).alloc (Nat.le_refl _) _
  have hC := openSymbols_any (w.alloc (.cells #[.slice a1 n c1, .slice a2 m c2] 26)) B a1 a2 c1 c2 n m l ms hn hm (h1.below (hb0.mono hB)) (h2.below (hb0.mono hB)) (Nat.le_trans hB hb0.size) hlen hlem hl hs
  obtain ⟨ok, hok⟩ : ∃ ok, objOk (l.map Sp.s) ms = ok := ⟨_, rfl⟩
  rw [hok] at hC ⊢
  obtain ⟨RS, hRS⟩ : ∃ RS, (if ok then (((opens ms).filter tq).map Sm.name).foldl insertS [] else []) = RS := ⟨_, rfl⟩
  rw [hRS]
  have HRS := hidden hRS
  clear hRS
  have HQ := hidden htq
  have HC := hidden hC
  clear hC hok hn hm h1 h2 hl hs hB htq
  go_enter Try.func41, Try.ntmps41
  go_wp2_with fail
  refine HC.out.mono ?_
  clear HC
  rintro e w1 ⟨hb1, hf, ht⟩
  have hbx := hidden (hb0.trans (hb1.mono hb0.size))
  rcases ok with _ | _
  · obtain rfl := hf rfl
    have HE : Hid (RS = []) := HRS.out.symm
    clear hf ht hb0 hb1 HRS
    go_wp2_with fail
    go_ret
    rw [HE.out]
    exact fresh_none hbx.out
  obtain ⟨mb, D, rfl, hmb, hm12, hmap⟩ := ht rfl
  have HRT : Hid (RS = (((opens ms).filter tq).map Sm.name).foldl insertS []) := HRS.out.symm
  have hown := hmap.own
  have hbl := hown.lt
  have HMAP := hidden hmap
  have HSZ : Hid (Maps.size D ≤ 12) := hown.size_le
  have HMB : Hid (w.heap.size + 1 ≤ mb) := by show _ ≤ _; simpa using hmb
  clear hf ht hmap hmb hm12 hb0 hb1 HRS
  go_wp2_with (at_range; refine wpList_range_own _ rfl _ 91 rfl 9 37 Try.law_str Try.underlying91 symElem mb 12 D rfl hown ?_; intro w0 hrg0 hg0 hs0)
  go_frame
  have HR0 := hidden hrg0
  have hbx0 : Hid (Below w.heap.size w w0) := hbx.out.grown hg0 hbx.out.size (fun j hj => by cases hj)
  have hs0' : Hid (w1.heap.size ≤ w0.heap.size) := hg0.size
  clear hrg0 hg0 hs0
  go_loopw [7] (fun v wr => ∃ (left : Lit → Bool) (cnt : Nat) (ns : List ByteArray), Hid (wr.ranges Try.prog 9 symElem mb w1.heap.size 12 D left cnt) ∧ ns.length + cnt ≤ 12 ∧ Hid (wr.ownsRow w1.heap.size 9 1 v ns.length (ns.map Value.string)) ∧ Hid (Met tq (opens ms) left ns) ∧ Hid (Below w.heap.size w wr) ∧ Hid (w1.heap.size ≤ wr.heap.size)) (fun _ wr => wr.rangeLeft mb w1.heap.size)
  case atStart => exact ⟨_, _, [], HR0.out, by simpa using HSZ.out, World.ownsRow_nil _ _ _ _, Met.start HMAP.out, hbx0.out, hs0'.out⟩
  case round =>
    obtain ⟨left, cnt, ns, hrg, hcs, hrow, hM, hbw, hws⟩ := hrel
    clear HR0 hbx0 hs0'
    go_wp2_with (at_next; refine wpList_next_ranges _ rfl _ rfl 9 Try.law_str symElem Value.string Sm.agg (fun key kl hk => keyOf_text hk) (fun v y hv => symElem_inv hv) mb w1.heap.size 12 _ _ _ rfl hrg.out ?_ ?_)
    · intro hc0 hl0
      have hmem := hidden (fun s => hM.out.done hl0 s)
      have hnd := hidden hM.out.once
      rcases hrow.out.2 with ⟨rfl, hnil⟩ | ⟨g, cap, cur, rfl, hbase, hb, h1, h2, h3, h4⟩
      · have hn0 : ns = [] := List.eq_nil_of_length_eq_zero hnil
        have HE : Hid (((((opens ms).filter tq).map Sm.name)).foldl insertS [] = []) := by
          have e : ((opens ms).filter tq).map Sm.name = [] := List.eq_nil_iff_forall_not_mem.2 fun s hs => by have := (hmem.out s).2 hs; rw [hn0] at this; cases this
          show _ = _
          rw [e]; rfl
        clear hc0 hl0 hn0 hnil hrow hrg hM hmem hnd
        go_wp2_with (go_at_call 66; refine (Try.slices_Sort_string_none _ _ _).mono ?_; rintro e w3 ⟨rfl, rfl⟩)
        go_ret
        rw [HRT.out, HE.out]
        exact fresh_none hbw.out
      · have hH : Holds encStr wr g 0 (ns.map fun s => s.data.toList).toArray := holds_of_block hb (by rw [List.length_map, map_encText]; simpa using h4)
        have hgl : g < wr.heap.size := (Array.getElem?_eq_some_iff.1 hb).1
        have hsort := Try.slices_Sort_string g 0 cap (ns.map fun s => s.data.toList) wr hH hgl (by rw [List.length_map]; omega)
        rw [List.length_map] at hsort
        obtain ⟨k, hk⟩ : ∃ k, ns.length = k := ⟨_, rfl⟩
        have HFS : Hid (∀ (w2 : World) (x : Nat) (os : Array Obj), w2 = grow (putRow encStr (Sort.ahead wr x) g 0 ((ns.map fun s => s.data.toList).mergeSort fun x y => decide (x ≤ y)).toArray) os → FreshS w RS (.returned (.slice (some ⟨g, 0, none⟩) ns.length cap)) w2) := hidden (fun (w2 : World) (x : Nat) (os : Array Obj) (e : w2 = grow (putRow encStr (Sort.ahead wr x) g 0 ((ns.map fun s => s.data.toList).mergeSort fun x y => decide (x ≤ y)).toArray) os) => by rw [HRT.out]; exact fresh_sorted (cap := cap) hb (show w.heap.size ≤ g by have := HMB.out; omega) (by rw [h3]; simpa using h1) hnd.out hmem.out e hbw.out)
        rw [hk] at hsort HFS ⊢
        have HSORT := hidden hsort
        clear hc0 hl0 hrow hrg hM hmem hnd hH hgl hsort h1 h2 h3 h4 hb hbase hcs hk
        go_wp2_with fail
        refine HSORT.out.mono ?_
        rintro e w2 ⟨rfl, x, os, hw2⟩
        have HF := hidden (HFS.out w2 x os hw2)
        clear HSORT HFS hw2
        go_wp2_with fail
        go_ret
        exact HF.out
    · intro x c kl yd yp w2 cnt2 hkey hlk hv hat hrg2 hlt hg2 hs2 hen
      obtain ⟨rfl, hxs⟩ := keyOf_kl hkey
      obtain ⟨rfl, rfl⟩ : yd = symD c ∧ yp = [] := by have e := Option.some.inj (hv.symm.trans (symElem_mk c)); exact ⟨congrArg Prod.fst e, congrArg Prod.snd e⟩
      obtain ⟨-, rfl⟩ := HMAP.out.found hat
      obtain ⟨tk, htk⟩ : ∃ tk, tq c = tk := ⟨_, rfl⟩
      have hM2 : Hid (Met tq (opens ms) (fun z => left z && !z.sameKey (klS c.name)) (if tk then ns ++ [c.name] else ns)) := by
        show Met _ _ _ _
        rcases tk with _ | _
        · exact hM.out.left_ HMAP.out hlk hat htk
        · exact hM.out.took HMAP.out hlk hat htk
      obtain ⟨nm, bd, lo, va⟩ := c
      simp only at htk hxs hM2 hrg2
      unfold Sm.agg at hen
      have hrow2 := hidden (hrow.out.kept hg2 (Or.inr (row_ne_iter hrow.out hrg.out).symm))
      have hbw2 := hidden (hbw.out.grown hg2 hbw.out.size (fun j hj => by injection hj with hj; subst hj; have := HMB.out; omega))
      have hws2 : Hid (w1.heap.size ≤ w2.heap.size) := Nat.le_trans hws.out hg2.size
      have HR2 := hidden hrg2
      have hmeas : Hid (cnt2 < wr.rangeLeft mb w1.heap.size) := by show _ < _; rw [hrg.out.left_eq]; exact hlt
      have hcs2 : ns.length + 1 + cnt2 ≤ 12 := by omega
      have hT := given_test (w2.alloc (.cells #[.string nm, .int .i64 bd, .int .i64 lo, .int .i64 va] 37)) nm bd lo va
      have htk2 : decide (lo ≠ -1) = tk := by rw [← htk]; exact (HQ.out ⟨nm, bd, lo, va⟩).symm
      rw [htk2] at hT
      have HT := hidden hT
      clear hT htk htk2 hkey hlk hv hat hrg2 hlt hg2 hs2 hrow hbw hws hrg hM hcs
      unfold Sm.agg
      go_wp2_with fail
      refine HT.out.mono ?_
      clear HT
      rintro e w3 ⟨rfl, hb3⟩
      have hW3 : Below w2.heap.size w2 w3 := ((Below.refl _ _).alloc (Nat.le_refl _) _).trans (hb3.mono (by simp))
      have hg3 := grown_below hW3
      have hrow3 := hidden (hrow2.out.kept hg3 (Classical.em _))
      have HR3 := hidden (HR2.out.kept hg3 (by simp) (by simp))
      have hbw3 := hidden (hbw2.out.trans (hW3.mono hbw2.out.size))
      have hws3 : Hid (w1.heap.size ≤ w3.heap.size) := Nat.le_trans hws2.out hW3.size
      clear hen hb3 hW3 hg3 hrow2 HR2 hbw2 hws2
      rcases tk with _ | _
      · have hM3 : Hid (Met tq (opens ms) (fun z => left z && !z.sameKey (klS nm)) ns) := by have e := hM2.out; simp at e; exact e
        clear hM2
        go_wp2_with fail
        go_roundw
        case rel => exact ⟨_, cnt2, ns, HR3, by omega, hrow3, hM3, hbw3, hws3⟩
        case measure => rw [HR3.out.left_eq]; exact hmeas.out
      · have hM3 : Hid (Met tq (opens ms) (fun z => left z && !z.sameKey (klS nm)) (ns ++ [nm])) := by have e := hM2.out; simp at e; exact e
        clear hM2
        go_wp2_with (at_builtin; refine wpList_append_own _ rfl _ _ 28 rfl w1.heap.size 9 i0 (.string ⟨#[]⟩) 1 16 Try.underlying28 hi hz0 hz1 hz2 rfl (by decide) _ _ _ rfl (hrow3.out.alloc _) ⟨w3.heap.size, 0, none⟩ 1 1 [.string nm] rfl rfl (cell_one_new _ _ _) (by simp [Value.oneCell']) (by unfold maxLen; omega) (by omega) (by have := hws3.out; simp; omega) ?_; intro v' w4 hown4 hg4 hnil4; go_frame)
        have hrg4 := (HR3.out.alloc _).kept hg4 (row_ne_low hrow3.out hbl) (row_ne_iter hrow3.out HR3.out)
        have hown5 : w4.ownsRow w1.heap.size 9 1 v' (ns ++ [nm]).length ((ns ++ [nm]).map Value.string) := by simpa using hown4
        have hbw4 : Below w.heap.size w w4 := (hbw3.out.alloc hbw3.out.size _).grown hg4 (hbw3.out.alloc hbw3.out.size _).size (fun j hj => by have h5 := (hrow3.out.lt j hj).1; have h6 := HMB.out; omega)
        have hws4 : w1.heap.size ≤ w4.heap.size := by have h5 := hg4.size; have h6 := hws3.out; simp at h5; omega
        have hlen4 : (ns ++ [nm]).length + cnt2 ≤ 12 := by simp; omega
        have HR4 := hidden hrg4
        have HO5 := hidden hown5
        have HB4 := hidden hbw4
        have HW4 := hidden hws4
        clear hrg4 hown4 hown5 hg4 hnil4 hbw4 hws4
        go_roundw
        case rel => exact ⟨_, cnt2, ns ++ [nm], HR4, hlen4, HO5, hM3, HB4, HW4⟩
        case measure => rw [HR4.out.left_eq]; exact hmeas.out
set_option maxHeartbeats 1000000 in
theorem given_any (w : World) (B : Nat) (a1 a2 : Option Addr) (c1 c2 n m : Nat) (l : List Sp) (ms : List Sm) (hn : n = l.length) (hm : m = ms.length) (h1 : Sects w B a1 l) (h2 : Syms w B a2 ms) (hB : B ≤ w.heap.size) (hlen : n ≤ 9223372036854775807) (hlem : m ≤ 9223372036854775807)
    (hl : ∀ y ∈ l, y.s.fits) (hs : ∀ x ∈ ms, x.fits) :
    Calls Try.prog 13 #[.agg #[.slice a1 n c1, .slice a2 m c2]] w (FreshS w (if objOk (l.map Sp.s) ms then (((opens ms).filter (fun m : Sm => decide (m.loc ≠ -1))).map Sm.name).foldl insertS [] else [])) := by
  have hb0 : Below w.heap.size w (w.alloc (.cells #[.slice a1 n c1, .slice a2 m c2] 26)) := (Below.refl _ _).alloc (Nat.le_refl _) _
  have HC := hidden (openNames_given (fun m : Sm => decide (m.loc ≠ -1)) (fun _ => rfl) (w.alloc (.cells #[.slice a1 n c1, .slice a2 m c2] 26)) B a1 a2 c1 c2 n m l ms hn hm (h1.below (hb0.mono hB)) (h2.below (hb0.mono hB)) (Nat.le_trans hB hb0.size) hlen hlem hl hs)
  obtain ⟨S, hS⟩ : ∃ S, (if objOk (l.map Sp.s) ms then (((opens ms).filter (fun m : Sm => decide (m.loc ≠ -1))).map Sm.name).foldl insertS [] else []) = S := ⟨_, rfl⟩
  rw [hS] at HC ⊢
  clear hS hn hm h1 h2 hl hs hB
  go_enter Try.func13, Try.ntmps13
  go_wp2_with fail
  refine HC.out.mono ?_
  clear HC
  rintro e w1 ⟨a, c, rfl, hrow, hb1⟩
  have HF : Hid (FreshS w S (.returned (.slice a S.length c)) w1) := ⟨a, c, rfl, fun h => by
    obtain ⟨g, cs, h1, h2, h3⟩ := hrow h
    exact ⟨g, cs, h1, Nat.le_trans hb0.size h2, h3⟩, hb0.trans (hb1.mono hb0.size)⟩
  obtain ⟨k, hk⟩ : ∃ k, S.length = k := ⟨_, rfl⟩
  rw [hk] at HF
  clear hrow hb0 hb1
  rw [hk]
  go_wp2_with fail
  go_ret
  exact HF.out
theorem wantNamesWanted : WantNamesWanted := fun w B a1 a2 c1 c2 l ms h1 h2 hB hlen hlem hl hs => by
  have h := wanted_any w B a1 a2 c1 c2 _ _ l ms rfl rfl h1 h2 hB hlen hlem hl hs
  have e : (if objOk (l.map Sp.s) ms then (((opens ms).filter (fun m : Sm => decide (m.loc = -1))).map Sm.name).foldl insertS [] else []) = namesIf wants (l.map Sp.s) ms := by
    unfold namesIf
    rcases hok : objOk (l.map Sp.s) ms with _ | _
    · rfl
    · rw [if_pos rfl, if_pos rfl]
      unfold namesOf
      rw [objOk_split, Bool.and_eq_true] at hok
      rw [opens_wants hok.1]
  rw [e] at h
  exact h
theorem wantNamesGiven : WantNamesGiven := fun w B a1 a2 c1 c2 l ms h1 h2 hB hlen hlem hl hs => by
  have h := given_any w B a1 a2 c1 c2 _ _ l ms rfl rfl h1 h2 hB hlen hlem hl hs
  rw [opens_gives] at h
  exact h

end Go.Proofs.Ytjakkiidedmifaa

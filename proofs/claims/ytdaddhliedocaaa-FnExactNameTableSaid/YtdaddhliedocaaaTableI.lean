/-
  Contract of impl.NameTable.
-/
import Derived.Test.YtdaddhliedocaaaSortedI
import Derived.Test.YtdaddhliedocaaaEndsI
import Derived.Test.YtdaddhliedocaaaTableS
import Derived.Test.YtdaddhliedocaaaKeptP
import Derived.Lib.AppendStr
namespace Go.Proofs.Ytdaddhliedocaaa
open Go.RowKit Go.Lib

theorem grown_none {B : Nat} {w w' : World} (h : Below B w w') (hB : w.heap.size ≤ B) : w.grownBy w' none := ⟨h.os, h.tape, h.output, h.size, fun i hi _ => h.block i (by omega)⟩
theorem strCells_nums (s : ByteArray) : strCells s = (numsOf s).map (Value.int .u8) := by
  unfold strCells numsOf
  rw [List.map_map]; rfl
/-- In the tree of all ends of names a name has no longer end just where no other name ends with it. -/
theorem whole_iff {names : List ByteArray} {N : List UInt8 → Option Nat} (hN : ∀ q, (N q).isSome = true ↔ q = [] ∨ ∃ x ∈ names, q <:+ x.data.toList) (y : ByteArray) :
    (∀ c, N (c :: y.data.toList) = none) ↔ ∀ z ∈ names, endsS z y = true → z = y := by
  constructor
  · intro h z hz he
    obtain ⟨u, hu⟩ := (endsS_iff z y).1 he
    rcases List.eq_nil_or_concat u with rfl | ⟨u', c, rfl⟩
    · rw [List.nil_append] at hu
      exact ByteArray.ext (Array.toList_inj.1 hu.symm)
    · exfalso
      have h1 : (N (c :: y.data.toList)).isSome = true := (hN _).2 (.inr ⟨z, hz, u', by simpa using hu⟩)
      rw [h c] at h1; cases h1
  · intro h c
    cases hc : N (c :: y.data.toList) with
    | none => rfl
    | some b =>
      exfalso
      rcases (hN _).1 (by rw [hc]; rfl) with h1 | ⟨x, hx, hs⟩
      · cases h1
      · obtain ⟨u, hu⟩ := hs
        have e := h x hx ((endsS_iff x y).2 ⟨u ++ [c], by simpa using hu⟩)
        subst e
        have := congrArg List.length hu
        simp at this
        omega
/-- What the program's NameTable leaves: bytes in memory of its own. -/
def TabledO (w : World) (l : List Int) (e : Ending) (w' : World) : Prop :=
  ∃ v, e = .returned v ∧ w'.ownsRow w.heap.size 5 1 v l.length (l.map (Value.int .u8)) ∧ Below w.heap.size w w'
theorem tabledO_none {w w1 : World} (hb : Below w.heap.size w w1) : TabledO w [] (.returned (.slice none 0 0)) w1 :=
  ⟨_, rfl, ⟨rfl, .inl ⟨rfl, rfl⟩⟩, hb⟩
theorem row_lower {w : World} {base base' : Nat} {e : TypeId} {size : Nat} {v : Value} {n : Nat} {xs : List Value} (h : w.ownsRow base e size v n xs) (hb : base' ≤ base) : w.ownsRow base' e size v n xs :=
  ⟨h.1, h.2.imp id fun ⟨g, cap, cur, h1, h2, h3⟩ => ⟨g, cap, cur, h1, Nat.le_trans hb h2, h3⟩⟩
theorem TabledO.of {w w2 wr : World} {v : Value} {l l' : List Int} (hown : wr.ownsRow w2.heap.size 5 1 v l.length (l.map (Value.int .u8))) (e : l' = l) (hb : Below w.heap.size w w2) (hbw : Below w2.heap.size w2 wr) : TabledO w l' (.returned v) wr := by
  subst e
  exact ⟨_, rfl, row_lower hown hb.size, hb.trans (hbw.mono hb.size)⟩
theorem nameTab_wf (names : List ByteArray) : ∀ x ∈ nameTab names, (Lit.int .u8 x).wf = true := fun x hx => by
  unfold nameTab at hx
  split at hx
  · exact wf_u8.mpr (tabBytes_wf _ _ x hx)
  · cases hx
theorem TabledO.tabled {w : World} {l : List Int} {e : Ending} {w' : World} (h : TabledO w l e w') (hwf : ∀ x ∈ l, (Lit.int .u8 x).wf = true) : Tabled w l e w' := by
  obtain ⟨v, rfl, hown, hb⟩ := h
  obtain ⟨a, c, rfl, hc, hm, hi⟩ := ints_of_own3 hown hwf
  exact ⟨a, c, rfl, hc, hm, hi, hb⟩
set_option maxRecDepth 100000 in
set_option maxHeartbeats 2000000 in
theorem nameTable_own (w : World) (B : Nat) (a : Option Addr) (cap : Nat) (names : List ByteArray) (h : Vals w B a (names.map Value.string)) (hB : B ≤ w.heap.size) (hn : names.length ≤ 9223372036854775807) (hs : ∀ x ∈ names, x.size ≤ maxLen) :
    Calls Try.prog 17 #[.slice a names.length cap] w (TabledO w (nameTab names)) := by
  have hvalid := namesValid_any w B a cap names h hn hs
  cases hok : namesOk names with
  | false =>
    have e : nameTab names = [] := by unfold nameTab; rw [hok]; rfl
    rw [hok] at hvalid
    rw [e]
    have HC := hidden hvalid
    clear hvalid h hs hok e
    go_enter Try.func17, Try.ntmps17
    go_wp2_with (go_at_call 42; refine HC.out.mono ?_; rintro e w1 ⟨rfl, rfl⟩)
    go_ret
    exact tabledO_none (Below.refl _ _)
  | true =>
  rw [hok] at hvalid
  have hok2 : (∀ x ∈ names, nameOk x.data.toList = true) ∧ names.length ≤ 40 := by
    simpa [namesOk, List.all_eq_true] using hok
  have h8 : ∀ x ∈ names, x.size ≤ 8 := fun x hx => nameOk_size (hok2.1 x hx)
  have hends := endsOf_any w B a cap names h hB hok2.2 h8
  have hsort := fun (W : World) (hW : Below w.heap.size w W) => sortedNames_any W B a cap names (h.below (hW.mono hB)) hok2.2
  obtain ⟨S, hS⟩ : ∃ S, names.foldl insertS [] = S := ⟨_, rfl⟩
  have hmem : ∀ x, x ∈ S ↔ x ∈ names := fun x => by rw [← hS, mem_fold_iff]; simp
  have hnd : S.Nodup := by rw [← hS]; exact sorted_nodup (sorted_fold names [] List.Pairwise.nil)
  have hS40 : S.length ≤ 40 := by rw [← hS]; have := fold_length names []; simp at this; omega
  have hS8 : ∀ x ∈ S, x.size ≤ 8 := fun x hx => h8 x ((hmem x).1 hx)
  have hT : nameTab names = tabBytes S S.length := by unfold nameTab; rw [if_pos hok, hS]
  rw [hT]
  obtain ⟨n, hN⟩ : ∃ n, n = names.length := ⟨_, rfl⟩
  obtain ⟨L, hL⟩ : ∃ L, L = S.length := ⟨_, rfl⟩
  rw [← hN] at hvalid hends hsort ⊢
  rw [← hL] at hS40 ⊢
  unfold Sorted at hsort
  rw [hS] at hsort
  rw [← hL] at hsort
  obtain ⟨i0, hi0, hz0, hz1, hz2⟩ := info_parts Try.info_u8
  have HC := hidden hvalid
  have HE := hidden hends
  have HSORT := hidden hsort
  have HMEM := hidden hmem
  have HND := hidden hnd
  have HS8 := hidden hS8
  have HLL := hidden hL
  clear hvalid hends hsort hmem hnd hS8 hL hT hS hN h8 hok2 hok h hs
  go_enter Try.func17, Try.ntmps17
  go_wp2_with (go_at_call 42; refine HC.out.mono ?_; rintro e w1 ⟨rfl, rfl⟩)
  refine HE.out.mono ?_
  clear HE HC
  rintro e w2 ⟨root, rfl, N, ht, hroot, hdom, hb2⟩
  have HT := hidden ht
  have HROOT := hidden hroot
  have HDOM := hidden hdom
  have hown0 : (w2.alloc (.cells #[.int .u8 0] 5)).ownsRow w2.heap.size 5 1 (.slice (some ⟨w2.heap.size, 0, none⟩) 1 1) ([0] : List Int).length (([0] : List Int).map (Value.int .u8)) :=
    World.ownsRow_lit (base := w2.heap.size) (e := 5) (size := 1) w2 #[.int .u8 0] 1 (Nat.le_refl _) (by unfold maxLen; omega) rfl
  have hb2a : Below w2.heap.size w2 (w2.alloc (.cells #[.int .u8 0] 5)) := (Below.refl _ _).alloc (Nat.le_refl _) _
  have hsort2 := HSORT.out _ (hb2.trans (hb2a.mono hb2.size))
  have HS2 := hidden hsort2
  have HOWN0 := hidden hown0
  clear ht hroot hdom hsort2 HSORT hown0
  go_wp2_with fail
  refine HS2.out.mono ?_
  clear HS2
  rintro e w3 ⟨a', c', rfl, hrow, hb3⟩
  have hown1 : w3.ownsRow w2.heap.size 5 1 (.slice (some ⟨w2.heap.size, 0, none⟩) 1 1) ([0] : List Int).length (([0] : List Int).map (Value.int .u8)) := HOWN0.out.kept (grown_none hb3 (Nat.le_refl _)) (.inr (by simp [Value.ownBlock]))
  have hb23 : Below w2.heap.size w2 w3 := hb2a.trans (hb3.mono hb2a.size)
  have HOWN1 := hidden hown1
  have HROW := hidden hrow
  clear hown1 HOWN0 hrow hb3 hb2a
  go_wp2_with fail
  go_loopw [4, 16] (fun v i wr => ∃ (m : Nat) (l : List Int), i = .int .i64 m ∧ m ≤ L ∧ wr.ownsRow w2.heap.size 5 1 v l.length (l.map (Value.int .u8)) ∧ Hid (l = tabBytes S m) ∧ l.length ≤ 1 + 10 * m ∧
    Hid (StrRow wr a' (S.map Value.string)) ∧ Below w2.heap.size w2 wr) (fun _ i _ => L - (intOf i).toNat)
  case atStart => exact ⟨0, [0], rfl, by omega, HOWN1.out, rfl, by simp, HROW, hb23⟩
  case round =>
    obtain ⟨m, l, rfl, hm, hown, hl, hlen, hrow, hbw⟩ := hrel
    clear HOWN1 HROW hb23
    by_cases hmL : m < L
    · have hmS : m < S.length := by rw [← HLL.out]; exact hmL
      have hi : (m : Int) < (L : Int) := by omega
      obtain ⟨b, rfl, hcell⟩ := hrow.out.at_ (i := m) (by simpa using hmS)
      obtain ⟨y, hy⟩ : ∃ y, S[m] = y := ⟨_, rfl⟩
      have cy : wr.cell? ⟨b, m, none⟩ = some (.string y) := by rw [← Nat.zero_add m, hcell]; simp [hy]
      have hyS : y ∈ S := by rw [← hy]; exact List.getElem_mem hmS
      have hy8 := HS8.out y hyS
      have HYD : Hid (S.getD m ⟨#[]⟩ = y) := by show _ = _; rw [← hy]; simp [List.getD, List.getElem?_eq_getElem hmS]
      have hkeep : keepB S m = true ↔ ∀ c, N (c :: y.data.toList) = none := by
        rw [keepB_kept HND.out hmS, hy, kept_iff, whole_iff HDOM.out]
        exact ⟨fun hh z hz => hh z ((HMEM.out z).2 hz), fun hh z hz => hh z ((HMEM.out z).1 hz)⟩
      have hcall := isWhole_any wr w.heap.size 400 root N (HT.out.kept (grown_none hbw (Nat.le_refl _))) HROOT.out y hy8 (fun j => (HDOM.out _).2 (.inr ⟨y, (HMEM.out y).1 hyS, List.drop_suffix _ _⟩)) (keepB S m) hkeep
      have HCALL := hidden hcall
      have HOWN := hidden hown
      clear hcall hkeep hcell hy hyS hmS hown
      go_wp2_with fail
      refine HCALL.out.mono ?_
      clear HCALL
      rintro e w4 ⟨rfl, q, hw4⟩
      have hown2 := HOWN.out.kept (w' := w4) (row := none) (grown_none (B := wr.heap.size) (by rw [hw4]; exact below_drewN (Below.refl _ _) q) (Nat.le_refl _)) (Classical.em _)
      have hrow2 : StrRow w4 (some ⟨b, 0, none⟩) (S.map Value.string) := by rw [hw4]; exact hrow.out
      have hbw2 : Below w2.heap.size w2 w4 := by rw [hw4]; exact below_drewN hbw q
      clear hw4 HOWN hrow hbw cy
      cases hk : keepB S m with
      | false =>
        have HK : Hid (l = tabBytes S (m + 1)) := by show _ = _; rw [hl.out]; simp [tabBytes, hk]
        have HR2 := hidden hrow2
        clear hrow2 hl hk
        go_wp2_with fail
        go_roundw
        case rel => exact ⟨m + 1, l, by go_num, by omega, hown2, HK, by omega, HR2, hbw2⟩
        case measure => simp [intOf]; omega
      | true =>
        have HK : Hid (tabBytes S (m + 1) = l ++ numsOf y ++ [0]) := by show _ = _; rw [tabBytes, if_pos hk, HYD.out, hl.out]
        have hnl := numsOf_length y
        have HROW2 := hidden hrow2
        have HOWN2 := hidden hown2
        have HNL := hidden hnl
        have hl1000 : l.length + y.size + 1 ≤ 1000 := by omega
        have s1 := hbw2.size
        have HB2 := hidden hbw2
        have Q3 : Hid (l.length + y.size ≤ maxLen) := by show _ ≤ _; unfold maxLen; omega
        have Q4 : Hid (l.length + y.size ≤ 140737488355328) := by show _ ≤ _; omega
        clear hrow2 hown2 hnl hl hk HYD
        go_wp2_with (at_builtin; refine wpList_append_own_string _ rfl (.tmp 23) (.tmp 24) 22 9 rfl w2.heap.size 5 i0 Try.underlying22 Try.underlying9 hi0 hz0 hz1 hz2 _ _ _ rfl HOWN2.out y rfl Q3.out Q4.out HB2.out.size ?_)
        intro v1 w5 hown3 hgrow1 _
        have hb3 : Below w2.heap.size w2 w5 := HB2.out.grown hgrow1 HB2.out.size (fun q hq => (HOWN2.out.lt q hq).1)
        have hrow3 : StrRow w5 (some ⟨b, 0, none⟩) (S.map Value.string) := HROW2.out.grown HOWN2.out hgrow1
        have HOWN3 := hidden hown3
        have HROW3 := hidden hrow3
        have HB3 := hidden hb3
        have s2 := hb3.size
        clear hown3 hgrow1 HROW2 HOWN2 HB2 hrow3 hb3
        go_wp2_with (at_builtin; refine wpList_append_own _ rfl (.tmp 26) (.tmp 27) 22 rfl w2.heap.size 5 i0 (.int .u8 0) 1 1 Try.underlying22 hi0 hz0 hz1 hz2 rfl (by decide) _ _ _ rfl (HOWN3.out.alloc _) ⟨w5.heap.size, 0, none⟩ 1 1 [.int .u8 0] rfl rfl ?f1 ?f2 ?f3 ?f4 ?f5 ?_)
        case f1 =>
          intro t u ht
          match t, ht with
          | 0, ht => simp at ht; subst ht; simp [Addr.add]
        case f2 => intro u hu; simp at hu; subst hu; rfl
        case f3 => unfold maxLen; omega
        case f4 => omega
        case f5 => simp; omega
        intro v2 w6 hown4 hgrow2 _
        have hb4 : Below w2.heap.size w2 w6 := (HB3.out.alloc HB3.out.size _).grown hgrow2 (by simp; omega) (fun q hq => (HOWN3.out.lt q hq).1)
        have hrow4 : StrRow w6 (some ⟨b, 0, none⟩) (S.map Value.string) := (HROW3.out.only (World.grownBy_alloc _ _ none)).grown (HOWN3.out.alloc _) hgrow2
        have hll : (l ++ numsOf y ++ [0]).length = l.length + y.size + 1 := by rw [List.length_append, List.length_append, HNL.out]; rfl
        have hown5 : w6.ownsRow w2.heap.size 5 1 v2 (l ++ numsOf y ++ [0]).length ((l ++ numsOf y ++ [0]).map (Value.int .u8)) := by
          rw [hll]
          rw [strCells_nums] at hown4
          simpa using hown4
        have HL5 := hidden hll
        have HKK := hidden HK.out.symm
        have HR4 := hidden hrow4
        clear hown4 hgrow2 HOWN3 HB3 hll HK HROW3 hrow4
        go_wp2_with fail
        go_roundw
        case rel => exact ⟨m + 1, l ++ numsOf y ++ [0], by go_num, by omega, hown5, HKK, by rw [HL5.out]; omega, HR4, hb4⟩
        case measure => simp [intOf]; omega
    · have hmn : m = L := by omega
      have hi : ¬ (m : Int) < (L : Int) := by omega
      have hfin := hidden (TabledO.of hown (show tabBytes S L = l by rw [hl.out, hmn]) hb2 hbw)
      clear hmn hown hl
      go_wp2_with fail
      go_ret
      exact hfin.out
theorem nameTable_any (w : World) (B : Nat) (a : Option Addr) (cap : Nat) (names : List ByteArray) (h : Vals w B a (names.map Value.string)) (hB : B ≤ w.heap.size) (hn : names.length ≤ 9223372036854775807) (hs : ∀ x ∈ names, x.size ≤ maxLen) :
    Calls Try.prog 17 #[.slice a names.length cap] w (Tabled w (nameTab names)) :=
  (nameTable_own w B a cap names h hB hn hs).mono fun _ _ h => h.tabled (nameTab_wf names)

end Go.Proofs.Ytdaddhliedocaaa

import Derived.WalkSpells
import Derived.WalkLawsBesides
import Derived.Handy
import Derived.Deep.QuietTactic
import Derived.BigQuiet
import Derived.Laws.IdiomStrings
import Derived.Test.YtjcfjpoodahlfaaGreatDoorSortP
import Derived.Test.YtjcfjpoodahlfaaGreatDoorInsertS
import Derived.Test.YtjcfjpoodahlfaaGreatDoorNameS
import Derived.Test.YtjcfjpoodahlfaaGreatDoorBase
namespace Go.Proofs.YtjcfjpoodahlfaaGreatDoor
open Go.RowKit
theorem l2Ends_any (a b : ByteArray) (ha : a.size ≤ maxLen) (hb : b.size ≤ maxLen) (w : World) :
    Calls Tryz.prog 69 #[.string a, .string b] w fun e w' => e = .returned (.bool (endsS a b)) ∧ w' = w := by
  have ha' : a.size ≤ 9223372036854775807 := by unfold maxLen at ha; omega
  have hb' : b.size ≤ 9223372036854775807 := by unfold maxLen at hb; omega
  clear ha hb
  by_cases hs : b.size ≤ a.size
  · have hs' : (b.size : Int) ≤ (a.size : Int) := by omega
    obtain ⟨c, hc⟩ : ∃ c, a.extract (a.size - b.size) a.size = c := ⟨_, rfl⟩
    have hsl : ∀ W : World, (Instr.slice 9 (.string a) (some (.int .i64 ((a.size : Int) - (b.size : Int)))) none none).run Tryz.prog W = .ok (.string c) W := fun W => by
      rw [run_slice_string_l (P := Tryz.prog) (w := W) 9 a Tryz.underlying9 .i64 _ (by omega) (by omega), ← hc]
      congr 2
      congr 1
      omega
    by_cases he : c = b
    · have h1 : endsS a b = true := by simp [endsS, hs, hc, he]
      have HE := hidden h1
      have HSL := hidden hsl
      subst he
      have hsl := HSL.out
      clear h1 HSL hc
      go_enter Tryz.func69, Tryz.ntmps69
      go_wp2
      go_ret
      exact ⟨ret_bool HE.out.symm, rfl⟩
    · have h1 : endsS a b = false := by simp [endsS, hc, he]
      have HE := hidden h1
      have hne := str_ne he
      clear h1 hc he
      go_enter Tryz.func69, Tryz.ntmps69
      go_wp2
      go_ret
      exact ⟨ret_bool HE.out.symm, rfl⟩
  · have hs' : ¬ (b.size : Int) ≤ (a.size : Int) := by omega
    have he : endsS a b = false := by simp [endsS, hs]
    have HE := hidden he
    clear he
    go_enter Tryz.func69, Tryz.ntmps69
    go_wp2
    go_ret
    exact ⟨ret_bool HE.out.symm, rfl⟩
open Go.RowKit
def Tabled (w : World) (l : List Int) (e : Ending) (w' : World) : Prop :=
  ∃ (a : Option Addr) (c : Nat), e = .returned (.slice a l.length c) ∧ l.length ≤ c ∧ c ≤ maxLen ∧ Ints w' .u8 w'.heap.size a l ∧ Below w.heap.size w w'
theorem tabled_nil {w w1 : World} (hb : Below w.heap.size w w1) : Tabled w [] (.returned (.slice (some ⟨w1.heap.size, 0, none⟩) 0 0)) (w1.alloc (.cells #[] 5)) :=
  ⟨_, 0, rfl, Nat.le_refl _, Nat.zero_le _, ⟨by simp, by simp⟩, hb.alloc hb.size _⟩
structure Held (w : World) (v : Value) (S : List ByteArray) (b off c : Nat) : Prop where
  val : v = .slice (some ⟨b, off, none⟩) S.length c
  fits : S.length ≤ c
  max : c ≤ maxLen
  lt : b < w.heap.size
  cells : ∀ i u, (S.map Value.string)[i]? = some u → w.cell? ⟨b, off + i, none⟩ = some u
set_option maxRecDepth 100000 in
set_option maxHeartbeats 8000000 in
theorem nameTable'_any (w : World) (B : Nat) (a : Option Addr) (cap : Nat) (names : List ByteArray) (h : Vals w B a (names.map Value.string)) (hB : B ≤ w.heap.size) (hn : names.length ≤ 9223372036854775807) (hs : ∀ x ∈ names, x.size ≤ maxLen) :
    Calls Tryz.prog 32 #[.slice a names.length cap] w (Tabled w (nameTab names)) := by
  obtain ⟨n, hN⟩ : ∃ n, n = names.length := ⟨_, rfl⟩
  rw [← hN] at hn ⊢
  have HN := hidden hN
  have HV := hidden h
  have HS := hidden hs
  clear hN h hs
  go_enter Tryz.func32, Tryz.ntmps32
  go_wp2
  go_loopw [3, 4] (fun v i wr => ∃ (k b off c : Nat) (S : List ByteArray), i = .int .i64 k ∧ k ≤ n ∧ v = .slice (some ⟨b, off, none⟩) S.length c ∧ Hid (Held wr v S b off c) ∧ Hid (S = (names.take k).foldl insertS []) ∧
      Hid (∀ j x, j < k → names[j]? = some x → nameOk x.data.toList = true) ∧ S.length ≤ k ∧ (0 < k → n ≤ 40) ∧ Below w.heap.size w wr) (fun _ i _ => n - (intOf i).toNat)
  case atStart => exact ⟨0, w.heap.size, 0, 0, [], rfl, by omega, rfl, ⟨rfl, Nat.le_refl _, Nat.zero_le _, by simp, by simp⟩, rfl, hidden (by intro j x hj; omega), by simp, by omega, (Below.refl _ _).alloc (Nat.le_refl _) _⟩
  case round =>
    obtain ⟨k, b, off, c, S, rfl, hk, rfl, hheld, hfold, hall, hSk, h40, hbw⟩ := hrel
    by_cases hlt : k < n
    · have hkL : k < names.length := by rw [← HN.out]; exact hlt
      have hx : names[k]? = some names[k] := List.getElem?_eq_getElem hkL
      have hxs := HS.out _ (List.getElem_mem hkL)
      obtain ⟨b0, o0, ha, hb0, e⟩ := (HV.out.below (hbw.mono hB)).at_ (i := k) (by simpa using hkL)
      subst ha
      obtain ⟨x, hxx⟩ : ∃ x, names[k] = x := ⟨_, rfl⟩
      have e' : wr.cell? ⟨b0, o0 + k, none⟩ = some (.string x) := by rw [e]; simp [hxx]
      rw [hxx] at hx hxs
      have HX := hidden hx
      clear hx hxx e hkL
      have hi : (k : Int) < (n : Int) := by omega
      go_wp2_with fail
      refine (nameValid'_any x wr hxs).mono ?_
      rintro e _ ⟨rfl, rfl⟩
      rcases hok : nameOk x.data.toList with _ | _
      · have hfin : Hid (Tabled w (nameTab names) (.returned (.slice (some ⟨wr.heap.size, 0, none⟩) 0 0)) (wr.alloc (.cells #[] 5))) := by rw [nameTab_bad HX.out hok]; exact tabled_nil hbw
        clear HX hall hfold hheld hbw hok
        go_wp2_with fail
        go_ret
        exact hfin.out
      · by_cases hm : 40 < n
        · have hm' : (40 : Int) < (n : Int) := by omega
          have hfin : Hid (Tabled w (nameTab names) (.returned (.slice (some ⟨wr.heap.size, 0, none⟩) 0 0)) (wr.alloc (.cells #[] 5))) := by rw [nameTab_many (by rw [← HN.out]; exact hm)]; exact tabled_nil hbw
          clear HX hall hfold hheld hbw hok
          go_wp2_with fail
          go_ret
          exact hfin.out
        · have hm' : ¬ (40 : Int) < (n : Int) := by omega
          have hins := l2Insert_any wr b off c S x hheld.out.lt hheld.out.cells hheld.out.fits hheld.out.max (by omega)
          have hfold' : Hid (insertS S x = (names.take (k + 1)).foldl insertS []) := by show _ = _; rw [take_fold HX.out, ← hfold.out]
          have hall' : Hid (∀ j y, j < k + 1 → names[j]? = some y → nameOk y.data.toList = true) := fun j y hj hy => by
            rcases Nat.lt_or_ge j k with h1 | h1
            · exact hall.out j y h1 hy
            · have : j = k := by omega
              subst this
              rw [HX.out] at hy; injection hy with hy; subst hy; exact hok
          have hlen := insertS_length S x
          have HI := hidden hins
          clear HX hall hfold hheld hok hins
          go_wp2_with fail
          refine HI.out.mono ?_
          clear HI
          rintro e w2 ⟨b2, o2, c2, rfl, hc2, hc2m, hb2, hcells, hbel⟩
          have hheld2 : Hid (Held w2 (.slice (some ⟨b2, o2, none⟩) (insertS S x).length c2) (insertS S x) b2 o2 c2) := ⟨rfl, hc2, hc2m, hb2, hcells⟩
          have hbw2 := hbw.trans (hbel.mono hbw.size)
          clear hcells hbel hbw
          go_wp2_with fail
          go_roundw
          case rel => exact ⟨k + 1, b2, o2, c2, insertS S x, by go_num, by omega, rfl, hheld2, hfold', hall', by omega, by omega, hbw2⟩
          case measure => simp [intOf]; omega
    · have hkn : k = n := by omega
      have hall2 : Hid (∀ x ∈ S, x.size ≤ 8) := fun x hx => by
        rw [hfold.out] at hx
        rcases mem_fold _ _ _ hx with h | h
        · simp at h
        · obtain ⟨j, hj, he⟩ := List.getElem_of_mem (List.mem_of_mem_take h)
          exact nameOk_size (hall.out j x (by rw [hkn, HN.out]; exact hj) (by rw [List.getElem?_eq_getElem hj, he]))
      have hres : Hid (nameTab names = tabBytes S S.length) := by
        show _ = _
        have hS : S = names.foldl insertS [] := by rw [hfold.out, hkn, HN.out, List.take_length]
        rw [hS]
        by_cases h0 : n = 0
        · have : names = [] := List.eq_nil_of_length_eq_zero (by rw [← HN.out]; exact h0)
          subst this; rfl
        · exact nameTab_ok (fun j x hj hx => hall.out j x (by rw [hkn, HN.out]; exact hj) hx) (by rw [← HN.out]; omega)
      have hS40 : S.length ≤ 40 := by
        by_cases h0 : 0 < k
        · have := h40 h0; omega
        · omega
      have hi : ¬ (k : Int) < (n : Int) := by omega
      obtain ⟨i0, hi0, hz0, hz1, hz2⟩ := info_parts Tryz.info_u8
      obtain ⟨w1, rfl⟩ : ∃ w1 : World, w1 = wr := ⟨_, rfl⟩
      have hown0 : (w1.alloc (.cells #[.int .u8 0] 5)).ownsRow w1.heap.size 5 1 (.slice (some ⟨w1.heap.size, 0, none⟩) 1 1) ([0] : List Int).length (([0] : List Int).map (Value.int .u8)) :=
        World.ownsRow_lit (base := w1.heap.size) (e := 5) (size := 1) w1 #[.int .u8 0] 1 (Nat.le_refl _) (by unfold maxLen; omega) rfl
      have HO0 := hidden hown0
      obtain ⟨L, hL⟩ : ∃ L, L = S.length := ⟨_, rfl⟩
      have HLL := hidden hL
      rw [← hL] at hS40 ⊢
      clear hown0 hfold hall hSk h40 hkn hL
      go_wp2
      go_loopw [5, 6] (fun v i wr => ∃ (m : Nat) (l : List Int), i = .int .i64 m ∧ m ≤ L ∧ wr.ownsRow w1.heap.size 5 1 v l.length (l.map (Value.int .u8)) ∧ Hid (l = tabBytes S m) ∧ l.length ≤ 1 + 10 * m ∧ Below w1.heap.size w1 wr) (fun _ i _ => L - (intOf i).toNat)
      case atStart => exact ⟨0, [0], rfl, by omega, HO0.out, rfl, by simp, (Below.refl _ _).alloc (Nat.le_refl _) _⟩
      case round =>
        obtain ⟨m, l, rfl, hm, hown, hl, hlen, hb1⟩ := hrel
        clear HO0
        obtain ⟨wo, rfl⟩ : ∃ wo : World, wo = wr := ⟨_, rfl⟩
        by_cases hmL : m < L
        · have hmS : m < S.length := by rw [← HLL.out]; exact hmL
          have hi2 : (m : Int) < (L : Int) := by omega
          obtain ⟨y, hy⟩ : ∃ y, S[m] = y := ⟨_, rfl⟩
          have hy8 : y.size ≤ 8 := by rw [← hy]; exact hall2.out _ (List.getElem_mem hmS)
          have HYD : Hid (S.getD m ⟨#[]⟩ = y) := by show _ = _; rw [← hy]; simp [List.getD, List.getElem?_eq_getElem hmS]
          have hcy : Hid (∀ W, Below w1.heap.size w1 W → W.cell? ⟨b, off + m, none⟩ = some (.string y)) := fun W hW => (hW.cell hheld.out.lt).trans (hheld.out.cells m _ (by rw [List.getElem?_map, List.getElem?_eq_getElem hmS, hy]; rfl))
          have HOWN := hidden hown
          clear hy hmS hown
          go_wp2
          go_loopw [7, 8] (fun e j wr => ∃ (q : Bool) (t : Nat), e = .bool q ∧ j = .int .i64 t ∧ t ≤ L ∧ Hid (q = !freeB S m t) ∧ Hid (∃ d, wr = wo.drewN d)) (fun _ j _ => L - (intOf j).toNat)
          case atStart => exact ⟨false, 0, rfl, rfl, by omega, hidden (by rfl), hidden ⟨0, rfl⟩⟩
          case round =>
            obtain ⟨q, t, rfl, rfl, ht, hq, hd⟩ := hrel
            have hbi : Below w1.heap.size w1 wr := by obtain ⟨d, hd⟩ := hd.out; rw [hd]; exact below_drewN hb1 d
            by_cases htL : t < L
            · have htS : t < S.length := by rw [← HLL.out]; exact htL
              have hi3 : (t : Int) < (L : Int) := by omega
              have cy := hcy.out wr hbi
              obtain ⟨z, hz⟩ : ∃ z, S[t] = z := ⟨_, rfl⟩
              have hz8 : z.size ≤ 8 := by rw [← hz]; exact hall2.out _ (List.getElem_mem htS)
              have HZD : Hid (S.getD t ⟨#[]⟩ = z) := by show _ = _; rw [← hz]; simp [List.getD, List.getElem?_eq_getElem htS]
              have cz : wr.cell? ⟨b, off + t, none⟩ = some (.string z) := (hbi.cell hheld.out.lt).trans (hheld.out.cells t _ (by rw [List.getElem?_map, List.getElem?_eq_getElem htS, hz]; rfl))
              clear hz htS
              have hdn : ∀ nq, Hid (∃ d, wr.drewN nq = wo.drewN d) := fun nq => by obtain ⟨d, hd⟩ := hd.out; exact ⟨d + nq, by rw [hd, World.drewN_drewN]⟩
              have HDN := hidden hdn
              clear hdn hd hbi
              rcases q with _ | _
              · by_cases htm : t = m
                · have HQ : Hid (false = !freeB S m (t + 1)) := by show _ = _; rw [freeB_next, htm]; have := hq.out; rw [htm] at this; simp at this; simp [this]
                  have hne : (((t : Nat) : Int) != ((m : Nat) : Int)) = false := by simp [htm]
                  clear hq htm
                  go_wp2
                  go_quiet (fail)
                  go_wp2
                  go_roundw
                  case rel => exact ⟨false, t + 1, rfl, by go_num, by omega, HQ, HDN.out _⟩
                  case measure => simp [intOf]; omega
                · have hne : (((t : Nat) : Int) != ((m : Nat) : Int)) = true := by simp; omega
                  have hcall := fun W => l2Ends_any z y (by unfold maxLen; omega) (by unfold maxLen; omega) W
                  rcases hr : endsS z y with _ | _
                  · have HQ : Hid (false = !freeB S m (t + 1)) := by show _ = _; rw [freeB_next, HZD.out, HYD.out, hr]; have := hq.out; simp at this; simp [this]
                    rw [hr] at hcall
                    have HCALL := hidden hcall
                    clear hq htm hcall hr
                    go_wp2
                    go_quiet ((go_at_call 69; exact Calls.quiet_of_same (HCALL.out _)))
                    go_wp2
                    go_roundw
                    case rel => exact ⟨false, t + 1, rfl, by go_num, by omega, HQ, HDN.out _⟩
                    case measure => simp [intOf]; omega
                  · have HQ : Hid (true = !freeB S m (t + 1)) := by show _ = _; rw [freeB_next, HZD.out, HYD.out, hr]; simp [htm]
                    rw [hr] at hcall
                    have HCALL := hidden hcall
                    clear hq htm hcall hr
                    go_wp2
                    go_quiet ((go_at_call 69; exact Calls.quiet_of_same (HCALL.out _)))
                    go_wp2
                    go_roundw
                    case rel => exact ⟨true, t + 1, rfl, by go_num, by omega, HQ, HDN.out _⟩
                    case measure => simp [intOf]; omega
              · have HQ : Hid (true = !freeB S m (t + 1)) := by show _ = _; rw [freeB_next]; have := hq.out; simp at this; simp [this]
                clear hq
                go_wp2
                go_quiet (fail)
                go_wp2
                go_roundw
                case rel => exact ⟨true, t + 1, rfl, by go_num, by omega, HQ, HDN.out _⟩
                case measure => simp [intOf]; omega
            · have htl : t = S.length := by rw [← HLL.out]; omega
              have hkeep : q = !keepB S m := by rw [hq.out, keepB_free, htl]
              have hi3 : ¬ (t : Int) < (L : Int) := by omega
              obtain ⟨d, hd⟩ := hd.out
              subst hd
              rcases q with _ | _
              · have HK : Hid (tabBytes S (m + 1) = l ++ numsOf y ++ [0]) := by
                  show _ = _
                  have hk0 : keepB S m = true := by simpa using hkeep
                  rw [tabBytes, if_pos hk0, HYD.out, hl.out]
                have cy := hcy.out (wo.drewN d) (below_drewN hb1 d)
                have hnl := numsOf_length y
                have hown2 : (wo.drewN d).ownsRow w1.heap.size 5 1 _ l.length (l.map (Value.int .u8)) := HOWN.out
                have hbd := below_drewN hb1 d
                obtain ⟨wd, hwd⟩ : ∃ wd, wo.drewN d = wd := ⟨_, rfl⟩
                rw [hwd] at cy hown2 hbd ⊢
                have hcv := run_bytes_of_string (P := Tryz.prog) wd 9 22 5 y Tryz.underlying9 Tryz.underlying22 Tryz.underlying5
                obtain ⟨cv, hcvv⟩ : ∃ cv, grownCap wd y.size 0 5 = cv := ⟨_, rfl⟩
                rw [hcvv] at hcv
                have hbo : Below w1.heap.size w1 (wd.drew.alloc (.cells (bytesRow y cv) 5 ((bytesRow y cv).size, (bytesRow y cv).size + 1))) := hbd.drew.alloc hbd.size _
                have hcells : Hid (∀ (W : World), ∀ j u, ((numsOf y).map (Value.int .u8))[j]? = some u → (W.alloc (.cells (bytesRow y cv) 5 ((bytesRow y cv).size, (bytesRow y cv).size + 1))).cell? ((⟨W.heap.size, 0, none⟩ : Addr).add j) = some u) := by
                  intro W j u hj
                  have e : (⟨W.heap.size, 0, none⟩ : Addr).add j = ⟨W.heap.size, j, none⟩ := by unfold Addr.add; split <;> simp_all
                  have hjl : j < y.data.toList.length := by
                    rcases Nat.lt_or_ge j y.data.toList.length with h1 | h1
                    · exact h1
                    · rw [List.getElem?_eq_none (by simp [numsOf]; simpa using h1)] at hj; cases hj
                  rw [e, cell_of_row _ W.heap.size j (bytesRow y cv) 5 _ (heap_alloc_new W _)]
                  unfold bytesRow
                  rw [Array.getElem?_append_left (by simpa using hjl)]
                  simp [numsOf] at hj
                  simp [hj]
                have HOWN2 := hidden hown2
                have hl1000 : l.length + y.size + 1 ≤ 1000 := by omega
                have HBO := hidden hbo
                have s1 := hbd.size
                have Q0 : Hid (((numsOf y).map (Value.int .u8)).length = y.size * 1) := by show _ = _; rw [List.length_map, hnl]; omega
                have Q3 : Hid (l.length + y.size ≤ maxLen) := by show _ ≤ _; unfold maxLen; omega
                have Q4 : Hid ((l.length + y.size) * 1 ≤ 140737488355328) := by show _ ≤ _; omega
                have hnb : Hid (∀ q, _ = some q → w1.heap.size ≤ q) := fun q hq => (hown2.lt q hq).1
                clear hkeep hq htl hcy HYD hwd hcvv hown2 HOWN hbo hb1 hbd
                go_wp2_with (at_builtin; refine wpList_append_own _ rfl (.tmp 66) (.tmp 71) 22 rfl w1.heap.size 5 i0 (.int .u8 0) 1 1 Tryz.underlying22 hi0 hz0 hz1 hz2 rfl (by decide) _ _ _ rfl (HOWN2.out.drew.alloc _) ⟨wd.heap.size, 0, none⟩ y.size cv ((numsOf y).map (Value.int .u8)) rfl Q0.out (hcells.out wd.drew) (ints_oneCell _ _) Q3.out Q4.out HBO.out.size ?_)
                · intro v1 w2 hown3 hgrow1 _
                  have hb3 : Below w1.heap.size w1 w2 := HBO.out.grown hgrow1 HBO.out.size (fun q hq => hnb.out q hq)
                  have hnb2 : Hid (∀ q, v1.ownBlock = some q → w1.heap.size ≤ q) := fun q hq => (hown3.lt q hq).1
                  have HOWN3 := hidden hown3
                  have HB3 := hidden hb3
                  have s2 := hb3.size
                  clear hown3 hgrow1 HBO hnb HOWN2 hcells hcv hb3
                  go_wp2_with (at_builtin; refine wpList_append_own _ rfl (.tmp 72) (.tmp 73) 22 rfl w1.heap.size 5 i0 (.int .u8 0) 1 1 Tryz.underlying22 hi0 hz0 hz1 hz2 rfl (by decide) _ _ _ rfl (HOWN3.out.alloc _) ⟨w2.heap.size, 0, none⟩ 1 1 [.int .u8 0] rfl rfl ?f1 ?f2 ?f3 ?f4 ?f5 ?_)
                  case f1 =>
                    intro t u ht
                    match t, ht with
                    | 0, ht => simp at ht; subst ht; simp [Addr.add]
                  case f2 => intro u hu; simp at hu; subst hu; rfl
                  case f3 => unfold maxLen; omega
                  case f4 => omega
                  case f5 => simp; omega
                  · intro v2 w3 hown4 hgrow2 _
                    have hb4 : Below w1.heap.size w1 w3 := (HB3.out.alloc HB3.out.size _).grown hgrow2 (by simp; omega) (fun q hq => hnb2.out q hq)
                    have hll : (l ++ numsOf y ++ [0]).length = l.length + y.size + 1 := by rw [List.length_append, List.length_append, hnl]; rfl
                    have hown5 : w3.ownsRow w1.heap.size 5 1 v2 (l ++ numsOf y ++ [0]).length ((l ++ numsOf y ++ [0]).map (Value.int .u8)) := by
                      rw [hll]; simpa using hown4
                    have HL5 := hidden hll
                    have HK5 := HK.out.symm
                    have HKK := hidden HK5
                    clear hown4 hgrow2 hnb2 HOWN3 HB3 hll HK HK5
                    go_wp2
                    go_roundw
                    case rel => exact ⟨m + 1, l ++ numsOf y ++ [0], by go_num, by omega, hown5, HKK, by rw [HL5.out]; omega, hb4⟩
                    case measure => simp [intOf]; omega
              · have HK : Hid (l = tabBytes S (m + 1)) := by
                  show _ = _
                  have hk0 : keepB S m = false := by simpa using hkeep
                  rw [hl.out]; simp [tabBytes, hk0]
                have hown2 := HOWN.out
                clear hkeep hq htl hcy
                go_wp2
                go_roundw
                case rel => exact ⟨m + 1, l, by go_num, by omega, hown2, HK, by omega, below_drewN hb1 d⟩
                case measure => simp [intOf]; omega
        · have hmn : m = S.length := by rw [← HLL.out]; omega
          have hi2 : ¬ (m : Int) < (L : Int) := by omega
          obtain ⟨a2, c2, hv, hc2, hcm, hi2'⟩ := ints_of_own3 hown (fun x hx => by rw [hl.out] at hx; exact wf_u8.mpr (tabBytes_wf S m x hx))
          subst hv
          have hfin : Hid (Tabled w (nameTab names) (.returned (.slice a2 l.length c2)) wo) := by
            have e : nameTab names = l := by rw [hres.out, hl.out, hmn]
            rw [e]
            exact ⟨a2, c2, rfl, hc2, hcm, hi2', hbw.trans (hb1.mono hbw.size)⟩
          clear hmn hown
          go_wp2
          go_ret
          exact hfin.out

/-
  spec.NamesTwice and spec.NamesMissing.
-/
import Derived.Test.YtjakkiidedmifaaLnkF
import Derived.Test.YtjakkiidedmifaaLawO5
namespace Go.Proofs.Ytjakkiidedmifaa
open Go.RowKit

/-- The names that are taken, each put into a sorted list. -/
def condFold {α : Type} (p : α → Bool) (f : α → ByteArray) (xs : List α) : List ByteArray := xs.foldl (fun S x => if p x then insertS S (f x) else S) []
theorem condFold_snoc {α : Type} (p : α → Bool) (f : α → ByteArray) (xs : List α) (x : α) : condFold p f (xs ++ [x]) = if p x then insertS (condFold p f xs) (f x) else condFold p f xs := by
  unfold condFold; rw [List.foldl_append]; rfl
theorem condFold_is {α : Type} (p : α → Bool) (f : α → ByteArray) : ∀ xs : List α, condFold p f xs = ((xs.filter p).map f).foldl insertS [] :=
  snoc_ind rfl fun xs x ih => by
    rw [condFold_snoc, List.filter_append, List.map_append, List.foldl_append, ih]
    cases h : p x <;> simp [h]
theorem fold_ext {q : ByteArray → Bool} {xs ns : List ByteArray} (h : ∀ x, x ∈ xs ↔ x ∈ ns ∧ q x = true) : xs.foldl insertS [] = (ns.foldl insertS []).filter q := by
  refine sorted_ext (sorted_fold _ _ List.Pairwise.nil) ((sorted_fold _ _ List.Pairwise.nil).filter q) fun x => ?_
  rw [mem_fold_iff, List.mem_filter, mem_fold_iff, h x]
  simp
theorem in_given {p : Sm → Bool} {ss : List Sx} {ms : List Sm} {m : Sm} (h : objOk ss ms = true) (hm : m ∈ ms) (hp : p m = true) : m.name ∈ namesIf p ss ms := by
  unfold namesIf namesOf
  rw [if_pos h, mem_fold_iff]
  exact .inr (List.mem_map.2 ⟨m, List.mem_filter.2 ⟨hm, hp⟩, rfl⟩)
/-- What each object gives. -/
def givesL (L : List Oj) : List (List ByteArray) := L.map fun y => namesIf gives (y.l.map Sp.s) y.ms
theorem twice_is {L : List Oj} (h : validA (L.map Oj.o) = true) : condFold (fun x => decide (1 < (giveOf x (itemsA (L.map Oj.o))).strong)) id (givesL L).flatten = pickA isTwice (L.map Oj.o) := by
  rw [condFold_is, List.map_id]
  unfold pickA
  rw [if_pos h]
  refine fold_ext fun x => ?_
  have hs := (use_same x (itemsA (L.map Oj.o)) (binds_of h)).2.2.2.1
  rw [List.mem_filter, hs]
  unfold isTwice
  constructor
  · rintro ⟨h1, h2⟩
    refine ⟨?_, h2⟩
    obtain ⟨G, hG, hx⟩ := List.mem_flatten.1 h1
    unfold givesL at hG
    obtain ⟨y, hy, rfl⟩ := List.mem_map.1 hG
    obtain ⟨_, m, hm, _, rfl⟩ := mem_namesIf hx
    obtain ⟨i, hi⟩ := List.getElem?_of_mem hy
    obtain ⟨j, hj⟩ := List.getElem?_of_mem hm
    exact List.mem_map.2 ⟨⟨i, j, m⟩, mem_itemsA.2 ⟨y.o, by rw [List.getElem?_map, hi]; rfl, hj⟩, rfl⟩
  · rintro ⟨_, h2⟩
    refine ⟨?_, h2⟩
    have h3 : 0 < (useOf x (itemsA (L.map Oj.o))).strong := by have := of_decide_eq_true h2; omega
    obtain ⟨it, hit, rfl, h4, h5⟩ := (strong_by x _).1 h3
    obtain ⟨o, ho, hm⟩ := mem_itemsA.1 hit
    rw [List.getElem?_map] at ho
    obtain ⟨y, hy, rfl⟩ := Option.map_eq_some_iff.1 ho
    refine List.mem_flatten.2 ⟨_, List.mem_map.2 ⟨y, List.mem_of_getElem? hy, rfl⟩, ?_⟩
    exact in_given ((valid_few h).2 y (List.mem_of_getElem? hy)).1 (List.mem_of_getElem? hm) (by unfold gives; simp [h4, h5])
def missP (P : List It) (x : It) : Bool := decide (x.m.loc = -1) && decide (x.m.bind = 1) && !(giveOf x.m.name P).given
theorem miss_is {L : List (List Sx × List Sm)} (h : validA L = true) : condFold (missP (itemsA L)) (fun x => x.m.name) (itemsA L) = pickA isMiss L := by
  rw [condFold_is]
  unfold pickA
  rw [if_pos h]
  refine fold_ext fun x => ?_
  rw [List.mem_map]
  unfold isMiss
  constructor
  · rintro ⟨it, hit, rfl⟩
    rw [List.mem_filter] at hit
    obtain ⟨h1, h2⟩ := hit
    unfold missP at h2
    simp only [Bool.and_eq_true, decide_eq_true_eq] at h2
    have hg := (use_same it.m.name (itemsA L) (binds_of h)).2.2.1
    rw [hg] at h2
    exact ⟨List.mem_map.2 ⟨it, h1, rfl⟩, by rw [Bool.and_eq_true]; exact ⟨(wanted_by _ _).2 ⟨it, h1, rfl, h2.1.1, h2.1.2⟩, h2.2⟩⟩
  · rintro ⟨_, h2⟩
    rw [Bool.and_eq_true] at h2
    obtain ⟨it, hit, rfl, h4, h5⟩ := (wanted_by _ _).1 h2.1
    have hg := (use_same it.m.name (itemsA L) (binds_of h)).2.2.1
    exact ⟨it, List.mem_filter.2 ⟨hit, by unfold missP; rw [hg]; simp [h4, h5]; simpa using h2.2⟩, rfl⟩
set_option maxRecDepth 100000 in
set_option maxHeartbeats 8000000 in
theorem namesTwice'_any (w : World) (B : Nat) (a : Option Addr) (c0 n : Nat) (L : List Oj) (hn : n = L.length) (h : Objs w B a L) (hB : B ≤ w.heap.size) (hlen : n ≤ 9223372036854775807) (hf : ∀ y ∈ L, y.fits) :
    Calls Try.prog 26 #[.slice a n c0] w (Named w (pickA isTwice (L.map Oj.o))) := by
  obtain ⟨ok, hok⟩ : ∃ q, validA (L.map Oj.o) = q := ⟨_, rfl⟩
  have HOV : Hid (∀ W, Below w.heap.size w W → Calls Try.prog 20 #[.slice a n c0] W fun e w' => e = .returned (.bool ok) ∧ Below W.heap.size W w') := fun W hW => by
    have := objectsValid'_any W B a c0 n L hn (h.below (hW.mono hB)) (Nat.le_trans hB hW.size) hlen (fun y hy => (hf y hy).lens)
    rwa [hok] at this
  have HLG : Hid (∀ (W : World) (s : ByteArray), Below w.heap.size w W → ok = true → Calls Try.prog 50 #[.slice a n c0, .string s] W (GaveA W (giveOf s (itemsA (L.map Oj.o))))) := fun W s hW e => by
    obtain ⟨q1, q2⟩ := valid_few (hok.trans e)
    have := l11Given_any W B a c0 n L hn (h.below (hW.mono hB)) (Nat.le_trans hB hW.size) (by omega) (fun y hy => by have := (q2 y hy).2; omega) s
    rwa [← itemsA_is hn] at this
  have HST : Hid (∀ s, -1000 ≤ (giveOf s (itemsA (L.map Oj.o))).strong) := fun s => by have := (giveStrong_le s (itemsA (L.map Oj.o))).1; omega
  have HZ : Hid (n = 0 → ok = true) := fun e => by
    rw [← hok]
    have : L = [] := List.eq_nil_of_length_eq_zero (by omega)
    rw [this]; rfl
  have HEM : Hid (ok = false → pickA isTwice (L.map Oj.o) = []) := fun e => by unfold pickA; rw [hok, e]; rfl
  have HNG : Hid (∀ (W : World) (y : Oj), Below w.heap.size w W → y ∈ L → Calls Try.prog 15 #[.agg #[.slice y.a1 y.l.length y.c1, .slice y.a2 y.ms.length y.c2]] W (Named W (namesIf gives (y.l.map Sp.s) y.ms))) := fun W y hW hy => by
    have hO := h.below (hW.mono hB)
    obtain ⟨q1, q2, q3, q4⟩ := hf y hy
    exact namesGiven'_any W B y.a1 y.a2 y.c1 y.c2 _ _ y.l y.ms rfl rfl (hO.secs y hy) (hO.syms y hy) (Nat.le_trans hB hW.size) q1 q2 (fun z hz => (q3 z hz).lens) (fun x hx => (q4 x hx).name)
  have HFI : Hid (ok = true → condFold (fun x => decide (1 < (giveOf x (itemsA (L.map Oj.o))).strong)) id (givesL L).flatten = pickA isTwice (L.map Oj.o)) := fun e => twice_is (hok.trans e)
  have HFW : Hid (ok = true → n ≤ 4 ∧ ∀ y ∈ L, y.ms.length ≤ 12) := fun e => by
    obtain ⟨q1, q2⟩ := valid_few (hok.trans e)
    exact ⟨by omega, fun y hy => (q2 y hy).2⟩
  obtain ⟨R, hR⟩ : ∃ q, pickA isTwice (L.map Oj.o) = q := ⟨_, rfl⟩
  rw [hR] at HEM HFI ⊢
  obtain ⟨P, hP⟩ : ∃ q, itemsA (L.map Oj.o) = q := ⟨_, rfl⟩
  rw [hP] at HLG HFI HST
  have HN := hidden hn
  have H1 := hidden h
  have HF := hidden hf
  clear hok hR hP hn h hf hlen
  go_enter Try.func26, Try.ntmps26
  go_wp2_with fail
  have HB0 : Hid (Below w.heap.size w (w.alloc (.cells #[] 9))) := (Below.refl _ _).alloc (Nat.le_refl _) _
  go_loopw [3, 4] (fun v i wr => ∃ (k b off c : Nat) (S : List ByteArray), i = .int .i64 k ∧ k ≤ n ∧ v = .slice (some ⟨b, off, none⟩) S.length c ∧ Hid (S.length ≤ c ∧ c ≤ maxLen ∧ b < wr.heap.size ∧ ∀ i u, (S.map Value.string)[i]? = some u → wr.cell? ⟨b, off + i, none⟩ = some u) ∧ Hid (S = condFold (fun x => decide (1 < (giveOf x P).strong)) id ((givesL L).take k).flatten) ∧ S.length ≤ 12 * k ∧ (0 < k → ok = true) ∧ Hid (Below w.heap.size w wr)) (fun _ i _ => n - (intOf i).toNat)
  case atStart => exact ⟨0, w.heap.size, 0, 0, [], rfl, Nat.zero_le _, rfl, ⟨by simp, Nat.zero_le _, by simp, by simp⟩, hidden (by simp [condFold]), by simp, by omega, HB0⟩
  case round =>
    obtain ⟨k, b, off, c, S, rfl, hk, rfl, hheld, hfold, hSk, hko, hb⟩ := hrel
    clear HB0
    by_cases hlt : k < n
    · have hi : (k : Int) < (n : Int) := by omega
      go_wp2_with fail
      refine (HOV.out wr hb.out).mono ?_
      rintro e w2 ⟨rfl, hb2⟩
      have hbx2 := hidden (hb.out.trans (hb2.mono hb.out.size))
      have hheld2 : Hid (S.length ≤ c ∧ c ≤ maxLen ∧ b < w2.heap.size ∧ ∀ i u, (S.map Value.string)[i]? = some u → w2.cell? ⟨b, off + i, none⟩ = some u) :=
        ⟨hheld.out.1, hheld.out.2.1, Nat.lt_of_lt_of_le hheld.out.2.2.1 hb2.size, fun i u hu => (hb2.cell (by show b < _; exact hheld.out.2.2.1)).trans (hheld.out.2.2.2 i u hu)⟩
      clear hheld hb2 hb
      rcases ok with _ | _
      · have hk0 : k = 0 := by
          rcases Nat.eq_zero_or_pos k with h | h
          · exact h
          · exact absurd (hko h) (by simp)
        have hSR : R = S := by rw [HEM.out rfl, hfold.out, hk0]; rfl
        subst hSR
        clear hfold hko HEM HFI HFW HNG HLG HOV HZ HST
        go_wp2_with fail
        go_ret
        exact ⟨b, off, c, rfl, hheld2.out.1, hheld2.out.2.1, hheld2.out.2.2.1, hheld2.out.2.2.2, hbx2.out⟩
      · obtain ⟨hn4, hm12⟩ := HFW.out rfl
        have hkl : k < L.length := by rw [← HN.out]; exact hlt
        obtain ⟨b1, o1, rfl, _, p0, p1⟩ := (H1.out.below (hbx2.out.mono hB)).at_ hkl
        obtain ⟨y, hy⟩ : ∃ y, L[k] = y := ⟨_, rfl⟩
        rw [hy] at p0 p1
        have hy2 : L[k]? = some y := by rw [List.getElem?_eq_getElem hkl, hy]
        have hym := List.mem_of_getElem? hy2
        have HG := hidden (HNG.out w2 y hbx2.out hym)
        obtain ⟨G, hG⟩ : ∃ q, namesIf gives (y.l.map Sp.s) y.ms = q := ⟨_, rfl⟩
        have hGl : G.length ≤ 12 := by rw [← hG]; exact Nat.le_trans (namesIf_less _ _ _) (hm12 y hym)
        rw [hG] at HG
        have HTK : Hid (((givesL L).take (k + 1)).flatten = ((givesL L).take k).flatten ++ G) := by
          show _ = _
          have e : (givesL L)[k]? = some G := by unfold givesL; rw [List.getElem?_map, hy2, ← hG]; rfl
          rw [List.take_add_one, e, List.flatten_append]
          simp
        obtain ⟨n1, hn1⟩ : ∃ q, y.l.length = q := ⟨_, rfl⟩
        obtain ⟨n2, hn2⟩ : ∃ q, y.ms.length = q := ⟨_, rfl⟩
        rw [hn1] at p0 HG
        rw [hn2] at p1 HG
        clear hkl hy hy2 hym hG hn1 hn2 hm12
        go_wp2_with fail
        refine HG.out.mono ?_
        clear HG p0 p1
        rintro e w3 ⟨gb, go_, gc, rfl, _, _, hgb, hgc, hb3⟩
        obtain ⟨N, hNG⟩ : ∃ q, G.length = q := ⟨_, rfl⟩
        rw [hNG] at hGl ⊢
        have HNG2 := hidden hNG
        have HGV : Hid (∀ W, Below w3.heap.size w3 W → ∀ i u, (G.map Value.string)[i]? = some u → W.cell? ⟨gb, go_ + i, none⟩ = some u) := fun W hW i u hu => (hW.cell (by show gb < _; exact hgb)).trans (hgc i u hu)
        have hbx3 := hidden (hbx2.out.trans (hb3.mono hbx2.out.size))
        have hheld3 : Hid (S.length ≤ c ∧ c ≤ maxLen ∧ b < w3.heap.size ∧ ∀ i u, (S.map Value.string)[i]? = some u → w3.cell? ⟨b, off + i, none⟩ = some u) :=
          ⟨hheld2.out.1, hheld2.out.2.1, Nat.lt_of_lt_of_le hheld2.out.2.2.1 hb3.size, fun i u hu => (hb3.cell (by show b < _; exact hheld2.out.2.2.1)).trans (hheld2.out.2.2.2 i u hu)⟩
        have HF0 : Hid (S = condFold (fun x => decide (1 < (giveOf x P).strong)) id (((givesL L).take k).flatten ++ G.take 0)) := by show _ = _; rw [List.take_zero, List.append_nil]; exact hfold.out
        clear hgb hgc hb3 hNG hheld2 hbx2 hfold hko
        go_wp2_with fail
        clear hi
        go_loopw [3, 6] (fun v i wr => ∃ (j b off c : Nat) (S : List ByteArray), i = .int .i64 j ∧ j ≤ N ∧ v = .slice (some ⟨b, off, none⟩) S.length c ∧ Hid (S.length ≤ c ∧ c ≤ maxLen ∧ b < wr.heap.size ∧ ∀ i u, (S.map Value.string)[i]? = some u → wr.cell? ⟨b, off + i, none⟩ = some u) ∧ Hid (S = condFold (fun x => decide (1 < (giveOf x P).strong)) id (((givesL L).take k).flatten ++ G.take j)) ∧ S.length ≤ 12 * k + j ∧ Hid (Below w3.heap.size w3 wr)) (fun _ i _ => N - (intOf i).toNat)
        case atStart => exact ⟨0, b, off, c, S, rfl, Nat.zero_le _, rfl, hheld3, HF0, by omega, Below.refl _ _⟩
        case round =>
          clear hheld3 HF0 hSk
          obtain ⟨j, b, off, c, S, rfl, hj, rfl, hheld, hfold, hSk, hb⟩ := hrel
          by_cases hltj : j < N
          · have hij : (j : Int) < (N : Int) := by omega
            obtain ⟨x, hx⟩ : ∃ x, G[j]? = some x := ⟨_, List.getElem?_eq_getElem (by rw [HNG2.out]; exact hltj)⟩
            have e1 : wr.cell? ⟨gb, go_ + j, none⟩ = some (.string x) := HGV.out wr hb.out j _ (by rw [List.getElem?_map, hx]; rfl)
            have HSN : Hid (condFold (fun x => decide (1 < (giveOf x P).strong)) id (((givesL L).take k).flatten ++ G.take (j + 1)) = if decide (1 < (giveOf x P).strong) then insertS S x else S) := by
              show _ = _
              rw [List.take_add_one, hx, ← List.append_assoc]
              show condFold _ _ (_ ++ [x]) = _
              rw [condFold_snoc, ← hfold.out]; rfl
            have hLG := HLG.out wr x (hbx3.out.trans (hb.out.mono hbx3.out.size)) trivial
            have hs0 := HST.out x
            obtain ⟨V, hV⟩ : ∃ q, giveOf x P = q := ⟨_, rfl⟩
            rw [hV] at hLG HSN hs0
            obtain ⟨vi, va, vg, vs, vw⟩ := V
            unfold GaveA at hLG
            simp only at hLG HSN hs0
            have HC := hidden hLG
            have HXJ := hidden hx
            clear hLG hV hfold hx
            go_wp2_with fail
            refine HC.out.mono ?_
            clear HC e1
            rintro e w4 ⟨rfl, hb4⟩
            have hb4a : Below wr.heap.size wr (w4.alloc (.cells #[.int .i64 vi, .int .i64 va] 32)) := hb4.alloc hb4.size _
            obtain ⟨W4, hW4⟩ : ∃ q, w4.alloc (.cells #[.int .i64 vi, .int .i64 va] 32) = q := ⟨_, rfl⟩
            rw [hW4] at hb4a
            have HW4 := hidden hW4
            have HB4 := hidden (hb.out.trans (hb4a.mono hb.out.size))
            have hheld4 : Hid (S.length ≤ c ∧ c ≤ maxLen ∧ b < W4.heap.size ∧ ∀ i u, (S.map Value.string)[i]? = some u → W4.cell? ⟨b, off + i, none⟩ = some u) :=
              ⟨hheld.out.1, hheld.out.2.1, Nat.lt_of_lt_of_le hheld.out.2.2.1 hb4a.size, fun i u hu => (hb4a.cell (by show b < _; exact hheld.out.2.2.1)).trans (hheld.out.2.2.2 i u hu)⟩
            have e1 : W4.cell? ⟨gb, go_ + j, none⟩ = some (.string x) := HGV.out W4 HB4.out j _ (by rw [List.getElem?_map, HXJ.out]; rfl)
            clear hb4 hb4a hW4 hheld hb HXJ
            go_upto_region 10 with fail
            rw [HW4.out]
            clear HW4
            by_cases hv1 : 1 < vs
            · have hd : decide (1 < vs) = true := decide_eq_true hv1
              have HSN2 : Hid (insertS S x = condFold (fun x => decide (1 < (giveOf x P).strong)) id (((givesL L).take k).flatten ++ G.take (j + 1))) := by show _ = _; rw [HSN.out, hd]; rfl
              have HINS := hidden (l2Insert_any W4 b off c S x hheld4.out.2.2.1 hheld4.out.2.2.2 hheld4.out.1 hheld4.out.2.1 (by omega))
              have hil := insertS_length S x
              clear HSN hheld4
              go_wp2_with fail
              refine HINS.out.mono ?_
              clear HINS e1
              rintro e w5 ⟨b5, off5, c5, rfl, k1, k2, k3, k4, hb5⟩
              have HB5 := hidden (HB4.out.trans (hb5.mono HB4.out.size))
              have hheld5 : Hid ((insertS S x).length ≤ c5 ∧ c5 ≤ maxLen ∧ b5 < w5.heap.size ∧ ∀ i u, ((insertS S x).map Value.string)[i]? = some u → w5.cell? ⟨b5, off5 + i, none⟩ = some u) := ⟨k1, k2, k3, k4⟩
              clear k1 k2 k3 k4 hb5 HB4
              go_wp2_with fail
              go_roundw
              case rel => exact ⟨j + 1, b5, off5, c5, insertS S x, by go_num, by omega, rfl, hheld5, HSN2, by omega, HB5⟩
              case measure => simp [intOf]; omega
            · have hd : decide (1 < vs) = false := decide_eq_false hv1
              have HSN2 : Hid (S = condFold (fun x => decide (1 < (giveOf x P).strong)) id (((givesL L).take k).flatten ++ G.take (j + 1))) := by show _ = _; rw [HSN.out, hd]; rfl
              clear HSN e1
              go_wp2_with fail
              go_roundw
              case rel => exact ⟨j + 1, b, off, c, S, by go_num, by omega, rfl, hheld4, HSN2, by omega, HB4⟩
              case measure => simp [intOf]; omega
          · have hij : ¬ (j : Int) < (N : Int) := by omega
            have HFE : Hid (S = condFold (fun x => decide (1 < (giveOf x P).strong)) id ((givesL L).take (k + 1)).flatten) := by
              show _ = _
              rw [hfold.out, HTK.out, show G.take j = G from List.take_of_length_le (by rw [HNG2.out]; omega)]
            have HBE := hidden (hbx3.out.trans (hb.out.mono hbx3.out.size))
            clear hfold hb
            go_wp2_with fail
            go_roundw
            case rel => exact ⟨k + 1, b, off, c, S, by go_num, by omega, rfl, hheld, HFE, by omega, by simp, HBE⟩
            case measure => simp [intOf]; omega
    · have hi : ¬ (k : Int) < (n : Int) := by omega
      have hok1 : ok = true := by
        rcases Nat.eq_zero_or_pos k with h | h
        · exact HZ.out (by omega)
        · exact hko h
      have hSR : R = S := by
        rw [← HFI.out hok1, hfold.out, List.take_of_length_le (by unfold givesL; rw [List.length_map, ← HN.out]; omega)]
      subst hSR
      clear hfold hko HEM HFI HFW HNG HLG HOV HZ HST hok1
      go_wp2_with fail
      go_ret
      exact ⟨b, off, c, rfl, hheld.out.1, hheld.out.2.1, hheld.out.2.2.1, hheld.out.2.2.2, hb.out⟩
set_option maxRecDepth 100000 in
set_option maxHeartbeats 8000000 in
theorem namesMissing'_any (w : World) (B : Nat) (a : Option Addr) (c0 n : Nat) (L : List Oj) (hn : n = L.length) (h : Objs w B a L) (hB : B ≤ w.heap.size) (hlen : n ≤ 9223372036854775807) (hf : ∀ y ∈ L, y.fits) :
    Calls Try.prog 29 #[.slice a n c0] w (Named w (pickA isMiss (L.map Oj.o))) := by
  obtain ⟨ok, hok⟩ : ∃ q, validA (L.map Oj.o) = q := ⟨_, rfl⟩
  have HOV : Hid (∀ W, Below w.heap.size w W → Calls Try.prog 20 #[.slice a n c0] W fun e w' => e = .returned (.bool ok) ∧ Below W.heap.size W w') := fun W hW => by
    have := objectsValid'_any W B a c0 n L hn (h.below (hW.mono hB)) (Nat.le_trans hB hW.size) hlen (fun y hy => (hf y hy).lens)
    rwa [hok] at this
  have HLG : Hid (∀ (W : World) (s : ByteArray), Below w.heap.size w W → ok = true → Calls Try.prog 50 #[.slice a n c0, .string s] W (GaveA W (giveOf s (itemsA (L.map Oj.o))))) := fun W s hW e => by
    obtain ⟨q1, q2⟩ := valid_few (hok.trans e)
    have := l11Given_any W B a c0 n L hn (h.below (hW.mono hB)) (Nat.le_trans hB hW.size) (by omega) (fun y hy => by have := (q2 y hy).2; omega) s
    rwa [← itemsA_is hn] at this
  have HST : Hid (∀ s, -1000 ≤ (giveOf s (itemsA (L.map Oj.o))).strong) := fun s => by have := (giveStrong_le s (itemsA (L.map Oj.o))).1; omega
  have HZ : Hid (n = 0 → ok = true) := fun e => by
    rw [← hok]
    have : L = [] := List.eq_nil_of_length_eq_zero (by omega)
    rw [this]; rfl
  have HEM : Hid (ok = false → pickA isMiss (L.map Oj.o) = []) := fun e => by unfold pickA; rw [hok, e]; rfl
  have HFI : Hid (ok = true → condFold (missP (itemsA (L.map Oj.o))) (fun x => x.m.name) (itemsUp (L.map Oj.ms) n) = pickA isMiss (L.map Oj.o)) := fun e => by
    rw [← itemsA_is hn]; exact miss_is (hok.trans e)
  have HFW : Hid (ok = true → n ≤ 4 ∧ ∀ y ∈ L, y.ms.length ≤ 12) := fun e => by
    obtain ⟨q1, q2⟩ := valid_few (hok.trans e)
    exact ⟨by omega, fun y hy => (q2 y hy).2⟩
  obtain ⟨R, hR⟩ : ∃ q, pickA isMiss (L.map Oj.o) = q := ⟨_, rfl⟩
  rw [hR] at HEM HFI ⊢
  obtain ⟨P, hP⟩ : ∃ q, itemsA (L.map Oj.o) = q := ⟨_, rfl⟩
  rw [hP] at HLG HFI HST
  have HN := hidden hn
  have H1 := hidden h
  have HF := hidden hf
  clear hok hR hP hn h hf hlen
  go_enter Try.func29, Try.ntmps29
  go_wp2_with fail
  have HB0 : Hid (Below w.heap.size w (w.alloc (.cells #[] 9))) := (Below.refl _ _).alloc (Nat.le_refl _) _
  go_loopw [3, 4] (fun v i wr => ∃ (k b off c : Nat) (S : List ByteArray), i = .int .i64 k ∧ k ≤ n ∧ v = .slice (some ⟨b, off, none⟩) S.length c ∧ Hid (S.length ≤ c ∧ c ≤ maxLen ∧ b < wr.heap.size ∧ ∀ i u, (S.map Value.string)[i]? = some u → wr.cell? ⟨b, off + i, none⟩ = some u) ∧ Hid (S = condFold (missP P) (fun x => x.m.name) (itemsUp (L.map Oj.ms) k)) ∧ S.length ≤ 12 * k ∧ (0 < k → ok = true) ∧ Hid (Below w.heap.size w wr)) (fun _ i _ => n - (intOf i).toNat)
  case atStart => exact ⟨0, w.heap.size, 0, 0, [], rfl, Nat.zero_le _, rfl, ⟨by simp, Nat.zero_le _, by simp, by simp⟩, hidden (by simp [condFold, itemsUp]), by simp, by omega, HB0⟩
  case round =>
    obtain ⟨k, b, off, c, S, rfl, hk, rfl, hheld, hfold, hSk, hko, hb⟩ := hrel
    clear HB0
    by_cases hlt : k < n
    · have hi : (k : Int) < (n : Int) := by omega
      go_wp2_with fail
      refine (HOV.out wr hb.out).mono ?_
      rintro e w2 ⟨rfl, hb2⟩
      have hbx2 := hidden (hb.out.trans (hb2.mono hb.out.size))
      have hheld2 : Hid (S.length ≤ c ∧ c ≤ maxLen ∧ b < w2.heap.size ∧ ∀ i u, (S.map Value.string)[i]? = some u → w2.cell? ⟨b, off + i, none⟩ = some u) :=
        ⟨hheld.out.1, hheld.out.2.1, Nat.lt_of_lt_of_le hheld.out.2.2.1 hb2.size, fun i u hu => (hb2.cell (by show b < _; exact hheld.out.2.2.1)).trans (hheld.out.2.2.2 i u hu)⟩
      clear hheld hb2 hb
      rcases ok with _ | _
      · have hk0 : k = 0 := by
          rcases Nat.eq_zero_or_pos k with h | h
          · exact h
          · exact absurd (hko h) (by simp)
        have hSR : R = S := by rw [HEM.out rfl, hfold.out, hk0]; rfl
        subst hSR
        clear hfold hko HEM HFI HFW HLG HOV HZ HST
        go_wp2_with fail
        go_ret
        exact ⟨b, off, c, rfl, hheld2.out.1, hheld2.out.2.1, hheld2.out.2.2.1, hheld2.out.2.2.2, hbx2.out⟩
      · obtain ⟨hn4, hm12⟩ := HFW.out rfl
        have hkl : k < L.length := by rw [← HN.out]; exact hlt
        obtain ⟨y, hy⟩ : ∃ y, L[k] = y := ⟨_, rfl⟩
        have hy2 : L[k]? = some y := by rw [List.getElem?_eq_getElem hkl, hy]
        have hym := List.mem_of_getElem? hy2
        have hm1 := hm12 y hym
        obtain ⟨m, hm⟩ : ∃ q, y.ms.length = q := ⟨_, rfl⟩
        rw [hm] at hm1
        have HLK : Hid ((L.map Oj.ms)[k]? = some y.ms) := by show _ = _; rw [List.getElem?_map, hy2]; rfl
        have HX : Hid (∀ W, Below w.heap.size w W → ∃ b1 o1, a = some ⟨b1, o1, none⟩ ∧ W.cell? ⟨b1, o1 + k * 2 + 1, none⟩ = some (.slice y.a2 m y.c2) ∧ Syms W B y.a2 y.ms) := fun W hW => by
          have h1 := H1.out.below (hW.mono hB)
          obtain ⟨b1, o1, e1, _, _, p1⟩ := h1.at_ hkl
          rw [hy] at p1
          rw [hm] at p1
          exact ⟨b1, o1, e1, p1, h1.syms y hym⟩
        have HM := hidden hm
        obtain ⟨b1, o1, rfl, _⟩ := HX.out w2 hbx2.out
        have HF0 : Hid (S = condFold (missP P) (fun x => x.m.name) (itemsAt (L.map Oj.ms) k 0)) := by show _ = _; rw [itemsAt_zero]; exact hfold.out
        clear hkl hy hy2 hym hm hm12 hfold hko
        go_wp2_with fail
        clear hi
        go_loopw [3, 5] (fun v i wr => ∃ (j b off c : Nat) (S : List ByteArray), i = .int .i64 j ∧ j ≤ m ∧ v = .slice (some ⟨b, off, none⟩) S.length c ∧ Hid (S.length ≤ c ∧ c ≤ maxLen ∧ b < wr.heap.size ∧ ∀ i u, (S.map Value.string)[i]? = some u → wr.cell? ⟨b, off + i, none⟩ = some u) ∧ Hid (S = condFold (missP P) (fun x => x.m.name) (itemsAt (L.map Oj.ms) k j)) ∧ S.length ≤ 12 * k + j ∧ Hid (Below w.heap.size w wr)) (fun _ i _ => m - (intOf i).toNat)
        case atStart => exact ⟨0, b, off, c, S, rfl, Nat.zero_le _, rfl, hheld2, HF0, by omega, hbx2⟩
        case round =>
          clear hheld2 HF0 hSk hbx2
          obtain ⟨j, b, off, c, S, rfl, hj, rfl, hheld, hfold, hSk, hb⟩ := hrel
          obtain ⟨b1', o1', e1, p1, hsy⟩ := HX.out wr hb.out
          injection e1 with e1
          injection e1 with e1 e2
          subst e1
          subst e2
          by_cases hltj : j < m
          · have hij : (j : Int) < (m : Int) := by omega
            have hjl : j < y.ms.length := by rw [HM.out]; exact hltj
            obtain ⟨b2, o2, ea2, _, p2, p3, p4, p5⟩ := hsy.at_ hjl
            rw [ea2] at p1
            obtain ⟨x, hx⟩ : ∃ x, y.ms[j] = x := ⟨_, rfl⟩
            have hx2 : y.ms[j]? = some x := by rw [List.getElem?_eq_getElem hjl, hx]
            rw [hx] at p2 p3 p4 p5
            have HSN : Hid (condFold (missP P) (fun x => x.m.name) (itemsAt (L.map Oj.ms) k (j + 1)) = if missP P ⟨k, j, x⟩ then insertS S x.name else S) := by
              show _ = _
              rw [itemsAt_next HLK.out hx2, condFold_snoc, ← hfold.out]
            obtain ⟨xn, xb, xl, xv⟩ := x
            simp only at p2 p3 p4 p5
            have hba : Below wr.heap.size wr (wr.alloc (.cells #[.string xn, .int .i64 xb, .int .i64 xl, .int .i64 xv] 37)) := (Below.refl _ _).alloc (Nat.le_refl _) _
            have hSA : Has (wr.alloc (.cells #[.string xn, .int .i64 xb, .int .i64 xl, .int .i64 xv] 37)) wr.heap.size 37 #[.string xn, .int .i64 xb, .int .i64 xl, .int .i64 xv] := Has.new _ _ _
            obtain ⟨Wa, hWa⟩ : ∃ q, wr.alloc (.cells #[.string xn, .int .i64 xb, .int .i64 xl, .int .i64 xv] 37) = q := ⟨_, rfl⟩
            obtain ⟨qs, hqs⟩ : ∃ q, wr.heap.size = q := ⟨_, rfl⟩
            rw [hWa] at hba hSA
            rw [hqs] at hSA
            have HBA := hidden (hb.out.trans (hba.mono hb.out.size))
            have hLG := HLG.out Wa xn HBA.out trivial
            obtain ⟨V, hV⟩ : ∃ q, giveOf xn P = q := ⟨_, rfl⟩
            have HVE := hidden hV
            rw [hV] at hLG
            obtain ⟨vi, va, vg, vs, vw⟩ := V
            unfold GaveA at hLG
            simp only at hLG
            have HC := hidden hLG
            have HWA := hidden hWa
            have HQS := hidden hqs
            have HSA := hidden hSA
            have HBW := hidden hba
            clear hjl hx hx2 ea2 hsy hWa hqs hSA hba hLG hV hfold
            go_upto_region 9 with fail
            rw [HWA.out, HQS.out]
            clear HWA p1 p2 p3 p4 p5
            have y0 : Wa.cell? ⟨qs, 0, none⟩ = some (.string xn) := HSA.out.cell 0
            go_wp2_with fail
            refine HC.out.mono ?_
            clear HC y0
            rintro e w4 ⟨rfl, hb4⟩
            have hb4a : Below Wa.heap.size Wa (w4.alloc (.cells #[.int .i64 vi, .int .i64 va] 32)) := hb4.alloc hb4.size _
            obtain ⟨W4, hW4⟩ : ∃ q, w4.alloc (.cells #[.int .i64 vi, .int .i64 va] 32) = q := ⟨_, rfl⟩
            rw [hW4] at hb4a
            have HW4 := hidden hW4
            have HB4 := hidden (HBA.out.trans (hb4a.mono HBA.out.size))
            have hS4 := HSA.out.below hb4a HSA.out.lt
            have hbr4 : Below wr.heap.size wr W4 := HBW.out.trans (hb4a.mono HBW.out.size)
            have hheld4 : Hid (S.length ≤ c ∧ c ≤ maxLen ∧ b < W4.heap.size ∧ ∀ i u, (S.map Value.string)[i]? = some u → W4.cell? ⟨b, off + i, none⟩ = some u) :=
              ⟨hheld.out.1, hheld.out.2.1, Nat.lt_of_lt_of_le hheld.out.2.2.1 hbr4.size, fun i u hu => (hbr4.cell (by show b < _; exact hheld.out.2.2.1)).trans (hheld.out.2.2.2 i u hu)⟩
            have z0 : W4.cell? ⟨qs, 0, none⟩ = some (.string xn) := hS4.cell 0
            have z1 : W4.cell? ⟨qs, 1, none⟩ = some (.int .i64 xb) := hS4.cell 1
            have z2 : W4.cell? ⟨qs, 2, none⟩ = some (.int .i64 xl) := hS4.cell 2
            clear hb4 hb4a hW4 hheld hb HBA HSA HBW hS4 hbr4 HQS
            go_upto_region 10 with fail
            rw [HW4.out]
            clear HW4
            have HMP : Hid (missP P ⟨k, j, ⟨xn, xb, xl, xv⟩⟩ = (decide (xl = -1) && decide (xb = 1) && !vg)) := by
              show _ = _
              unfold missP
              rw [HVE.out]
            clear HVE
            by_cases hl1 : xl = -1
            · have e1 : (xl == -1) = true := by simp [hl1]
              by_cases hb1 : xb = 1
              · have e2 : (xb == 1) = true := by simp [hb1]
                rcases vg with _ | _
                · have HSN2 : Hid (insertS S xn = condFold (missP P) (fun x => x.m.name) (itemsAt (L.map Oj.ms) k (j + 1))) := by show _ = _; rw [HSN.out, HMP.out, hl1, hb1]; rfl
                  have HINS := hidden (l2Insert_any W4 b off c S xn hheld4.out.2.2.1 hheld4.out.2.2.2 hheld4.out.1 hheld4.out.2.1 (by omega))
                  have hil := insertS_length S xn
                  clear HSN HMP hheld4 hl1 hb1
                  go_wp2_with fail
                  refine HINS.out.mono ?_
                  clear HINS z0 z1 z2
                  rintro e w5 ⟨b5, off5, c5, rfl, k1, k2, k3, k4, hb5⟩
                  have HB5 := hidden (HB4.out.trans (hb5.mono HB4.out.size))
                  have hheld5 : Hid ((insertS S xn).length ≤ c5 ∧ c5 ≤ maxLen ∧ b5 < w5.heap.size ∧ ∀ i u, ((insertS S xn).map Value.string)[i]? = some u → w5.cell? ⟨b5, off5 + i, none⟩ = some u) := ⟨k1, k2, k3, k4⟩
                  clear k1 k2 k3 k4 hb5 HB4
                  go_wp2_with fail
                  go_roundw
                  case rel => exact ⟨j + 1, b5, off5, c5, insertS S xn, by go_num, by omega, rfl, hheld5, HSN2, by omega, HB5⟩
                  case measure => simp [intOf]; omega
                · have HSN2 : Hid (S = condFold (missP P) (fun x => x.m.name) (itemsAt (L.map Oj.ms) k (j + 1))) := by show _ = _; rw [HSN.out, HMP.out, hl1, hb1]; rfl
                  clear HSN HMP hl1 hb1
                  go_wp2_with fail
                  go_roundw
                  case rel => exact ⟨j + 1, b, off, c, S, by go_num, by omega, rfl, hheld4, HSN2, by omega, HB4⟩
                  case measure => simp [intOf]; omega
              · have e2 : (xb == 1) = false := by simp [hb1]
                have HSN2 : Hid (S = condFold (missP P) (fun x => x.m.name) (itemsAt (L.map Oj.ms) k (j + 1))) := by show _ = _; rw [HSN.out, HMP.out, decide_eq_false hb1]; simp
                clear HSN HMP hl1 hb1
                go_wp2_with fail
                go_roundw
                case rel => exact ⟨j + 1, b, off, c, S, by go_num, by omega, rfl, hheld4, HSN2, by omega, HB4⟩
                case measure => simp [intOf]; omega
            · have e1 : (xl == -1) = false := by simp [hl1]
              have HSN2 : Hid (S = condFold (missP P) (fun x => x.m.name) (itemsAt (L.map Oj.ms) k (j + 1))) := by show _ = _; rw [HSN.out, HMP.out, decide_eq_false hl1]; simp
              clear HSN HMP hl1
              go_wp2_with fail
              go_roundw
              case rel => exact ⟨j + 1, b, off, c, S, by go_num, by omega, rfl, hheld4, HSN2, by omega, HB4⟩
              case measure => simp [intOf]; omega
          · have hij : ¬ (j : Int) < (m : Int) := by omega
            have HFE : Hid (S = condFold (missP P) (fun x => x.m.name) (itemsUp (L.map Oj.ms) (k + 1))) := by
              show _ = _
              rw [hfold.out, itemsAt_all HLK.out (by rw [HM.out]; omega)]
            clear hfold hsy
            go_wp2_with fail
            go_roundw
            case rel => exact ⟨k + 1, b, off, c, S, by go_num, by omega, rfl, hheld, HFE, by omega, by simp, hb⟩
            case measure => simp [intOf]; omega
    · have hi : ¬ (k : Int) < (n : Int) := by omega
      have hok1 : ok = true := by
        rcases Nat.eq_zero_or_pos k with h | h
        · exact HZ.out (by omega)
        · exact hko h
      have hkn : k = n := by omega
      have hSR : R = S := by rw [← HFI.out hok1, hfold.out, hkn]
      subst hSR
      clear hfold hko HEM HFI HFW HLG HOV HZ HST hok1
      go_wp2_with fail
      go_ret
      exact ⟨b, off, c, rfl, hheld.out.1, hheld.out.2.1, hheld.out.2.2.1, hheld.out.2.2.2, hb.out⟩

end Go.Proofs.Ytjakkiidedmifaa

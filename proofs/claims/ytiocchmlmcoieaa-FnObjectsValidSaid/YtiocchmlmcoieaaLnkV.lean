/-
  impl.ObjectsValid and spec.ObjectsValid.
-/
import Derived.Test.YtiocchmlmcoieaaObsL
import Derived.Test.YtiocchmlmcoieaaObI
import Derived.Test.YtiocchmlmcoieaaObjV
namespace Go.Proofs.Ytiocchmlmcoieaa
open Go.RowKit

/-- Objects are few, and valid. -/
def validA (L : List (List Sx × List Sm)) : Bool := decide (L.length ≤ 4) && L.all fun o => objOk o.1 o.2
/-- The numbers in an object are numbers of the machine. -/
def Oj.fits (y : Oj) : Prop := y.l.length ≤ 9223372036854775807 ∧ y.ms.length ≤ 9223372036854775807 ∧ (∀ z ∈ y.l, z.s.fits) ∧ ∀ x ∈ y.ms, x.fits
theorem Oj.fits.lens {y : Oj} (h : y.fits) : y.lens := ⟨h.1, h.2.1, fun z hz => (h.2.2.1 z hz).lens, fun x hx => (h.2.2.2 x hx).name⟩
theorem validA_no {L : List Oj} {k : Nat} {y : Oj} (hy : L[k]? = some y) (hv : objOk (y.l.map Sp.s) y.ms = false) : validA (L.map Oj.o) = false := by
  unfold validA
  rw [Bool.and_eq_false_iff]
  refine .inr ?_
  rw [Bool.eq_false_iff]
  intro h
  rw [List.all_eq_true] at h
  have := h y.o (List.mem_map_of_mem (List.mem_of_getElem? hy))
  rw [show objOk y.o.1 y.o.2 = objOk (y.l.map Sp.s) y.ms from rfl, hv] at this
  cases this
theorem validA_many {L : List Oj} (h : 4 < L.length) : validA (L.map Oj.o) = false := by
  unfold validA
  rw [decide_eq_false (by rw [List.length_map]; omega)]
  rfl
theorem validA_all {L : List Oj} (h : ∀ y ∈ L, objOk (y.l.map Sp.s) y.ms = true) : validA (L.map Oj.o) = decide (L.length ≤ 4) := by
  unfold validA
  have : ((L.map Oj.o).all fun o => objOk o.1 o.2) = true := by
    rw [List.all_eq_true]
    intro o ho
    obtain ⟨y, hy, rfl⟩ := List.mem_map.1 ho
    exact h y hy
  rw [this, Bool.and_true, List.length_map]
theorem validA_parts {L : List (List Sx × List Sm)} (h : validA L = true) : L.length ≤ 4 ∧ ∀ o ∈ L, objOk o.1 o.2 = true := by
  unfold validA at h
  rw [Bool.and_eq_true, List.all_eq_true] at h
  exact ⟨of_decide_eq_true h.1, h.2⟩
theorem allOk_next {L : List Oj} {k : Nat} {y : Oj} (hy : L[k]? = some y) (h : ∀ z ∈ L.take k, objOk (z.l.map Sp.s) z.ms = true) (hv : objOk (y.l.map Sp.s) y.ms = true) : ∀ z ∈ L.take (k + 1), objOk (z.l.map Sp.s) z.ms = true := fun z hz => by
  rw [List.take_add_one, hy] at hz
  rcases List.mem_append.1 hz with hz | hz
  · exact h z hz
  · simp at hz; subst hz; exact hv
set_option maxRecDepth 100000 in
set_option maxHeartbeats 2000000 in
theorem objectsValid_any (w : World) (B : Nat) (a : Option Addr) (c n : Nat) (L : List Oj) (hn : n = L.length) (h : Objs w B a L) (hB : B ≤ w.heap.size) (hlen : n ≤ 9223372036854775807) (hf : ∀ y ∈ L, y.fits) :
    Calls Try.prog 9 #[.slice a n c] w fun e w' => e = .returned (.bool (validA (L.map Oj.o))) ∧ Below w.heap.size w w' := by
  obtain ⟨ok, hok⟩ : ∃ q, validA (L.map Oj.o) = q := ⟨_, rfl⟩
  rw [hok]
  have HOK := hidden hok
  have HN := hidden hn
  have H1 := hidden h
  have HF := hidden hf
  clear hok hn h hf
  by_cases hbig : 4 < n
  · have hd : (4 : Int) < (n : Int) := by omega
    have hf0 : ok = false := by rw [← HOK.out]; exact validA_many (by rw [← HN.out]; exact hbig)
    subst hf0
    clear HOK HN H1 HF
    go_enter Try.func9, Try.ntmps9
    go_wp2_with fail
    go_ret
    exact ⟨rfl, Below.refl _ _⟩
  have hd : ¬ (4 : Int) < (n : Int) := by omega
  go_enter Try.func9, Try.ntmps9
  go_wp2_with fail
  go_loopw [10] (fun i wr => ∃ k : Nat, i = .int .i64 k ∧ k ≤ n ∧ Hid (∀ z ∈ L.take k, objOk (z.l.map Sp.s) z.ms = true) ∧ Below w.heap.size w wr) (fun i _ => n - (intOf i).toNat)
  case atStart => exact ⟨0, rfl, Nat.zero_le _, hidden (by simp), Below.refl _ _⟩
  case round =>
    obtain ⟨k, rfl, hk, hall, hb⟩ := hrel
    by_cases hlt : k < n
    · have hi : (k : Int) < (n : Int) := by omega
      have hkl : k < L.length := by rw [← HN.out]; exact hlt
      obtain ⟨b1, o1, rfl, _, p0, p1⟩ := (H1.out.below (hb.mono hB)).at_ hkl
      obtain ⟨y, hy⟩ : ∃ y, L[k] = y := ⟨_, rfl⟩
      rw [hy] at p0 p1
      have hy2 : L[k]? = some y := by rw [List.getElem?_eq_getElem hkl, hy]
      have hmem : y ∈ L := List.mem_of_getElem? hy2
      obtain ⟨q1, q2, q3, q4⟩ := HF.out y hmem
      have hs := (H1.out.secs y hmem).below (hb.mono hB)
      have hm := (H1.out.syms y hmem).below (hb.mono hB)
      obtain ⟨n1, hn1⟩ : ∃ q, y.l.length = q := ⟨_, rfl⟩
      obtain ⟨n2, hn2⟩ : ∃ q, y.ms.length = q := ⟨_, rfl⟩
      have hba : Below wr.heap.size wr (wr.alloc (.cells #[.slice y.a1 n1 y.c1, .slice y.a2 n2 y.c2] 29)) := (Below.refl _ _).alloc (Nat.le_refl _) _
      have hBr := Nat.le_trans hB hb.size
      have HC := objectValid_any (wr.alloc (.cells #[.slice y.a1 n1 y.c1, .slice y.a2 n2 y.c2] 29)) B y.a1 y.a2 y.c1 y.c2 n1 n2 y.l y.ms hn1.symm hn2.symm (hs.below (hba.mono hBr)) (hm.below (hba.mono hBr)) (Nat.le_trans hBr hba.size) (by omega) (by omega) q3 q4
      obtain ⟨v, hv⟩ : ∃ q, objOk (y.l.map Sp.s) y.ms = q := ⟨_, rfl⟩
      rw [hv] at HC
      rw [hn1] at p0
      rw [hn2] at p1
      have HC := hidden HC
      have HV := hidden hv
      have HY := hidden hy2
      have HBA := hidden (hb.trans (hba.mono hb.size))
      clear hy hkl hy2 hmem q1 q2 q3 q4 hs hm hn1 hn2 hba hBr hv hb
      go_wp2_with fail
      refine HC.out.mono ?_
      clear HC p0 p1
      rintro e w2 ⟨rfl, hb2⟩
      have HB2 := hidden (HBA.out.trans (hb2.mono HBA.out.size))
      clear hb2 HBA
      rcases v with _ | _
      · have hf0 : ok = false := by rw [← HOK.out]; exact validA_no HY.out HV.out
        subst hf0
        clear HOK HV HY hall
        go_wp2_with fail
        go_ret
        exact ⟨rfl, HB2.out⟩
      · have HA := hidden (allOk_next HY.out hall.out HV.out)
        clear HV HY hall
        go_wp2_with fail
        go_roundw
        case rel => exact ⟨k + 1, by go_num, by omega, HA, HB2.out⟩
        case measure => simp [intOf]; omega
    · have hi : ¬ (k : Int) < (n : Int) := by omega
      have ht : ok = true := by
        have h1 := hall.out
        rw [List.take_of_length_le (by rw [← HN.out]; omega)] at h1
        rw [← HOK.out, validA_all h1, decide_eq_true (by rw [← HN.out]; omega)]
      subst ht
      clear HOK hall
      go_wp2_with fail
      go_ret
      exact ⟨rfl, hb⟩
set_option maxRecDepth 100000 in
set_option maxHeartbeats 2000000 in
theorem objectsValid'_any (w : World) (B : Nat) (a : Option Addr) (c n : Nat) (L : List Oj) (hn : n = L.length) (h : Objs w B a L) (hB : B ≤ w.heap.size) (hlen : n ≤ 9223372036854775807) (hf : ∀ y ∈ L, y.lens) :
    Calls Try.prog 10 #[.slice a n c] w fun e w' => e = .returned (.bool (validA (L.map Oj.o))) ∧ Below w.heap.size w w' := by
  obtain ⟨ok, hok⟩ : ∃ q, validA (L.map Oj.o) = q := ⟨_, rfl⟩
  rw [hok]
  have HOK := hidden hok
  have HN := hidden hn
  have H1 := hidden h
  have HF := hidden hf
  clear hok hn h hf
  go_enter Try.func10, Try.ntmps10
  go_wp2_with fail
  go_loopw [3] (fun i wr => ∃ k : Nat, i = .int .i64 k ∧ k ≤ n ∧ Hid (∀ z ∈ L.take k, objOk (z.l.map Sp.s) z.ms = true) ∧ Below w.heap.size w wr) (fun i _ => n - (intOf i).toNat)
  case atStart => exact ⟨0, rfl, Nat.zero_le _, hidden (by simp), Below.refl _ _⟩
  case round =>
    obtain ⟨k, rfl, hk, hall, hb⟩ := hrel
    by_cases hlt : k < n
    · have hi : (k : Int) < (n : Int) := by omega
      have hkl : k < L.length := by rw [← HN.out]; exact hlt
      obtain ⟨b1, o1, rfl, _, p0, p1⟩ := (H1.out.below (hb.mono hB)).at_ hkl
      obtain ⟨y, hy⟩ : ∃ y, L[k] = y := ⟨_, rfl⟩
      rw [hy] at p0 p1
      have hy2 : L[k]? = some y := by rw [List.getElem?_eq_getElem hkl, hy]
      have hmem : y ∈ L := List.mem_of_getElem? hy2
      obtain ⟨q1, q2, q3, q4⟩ := HF.out y hmem
      have hs := (H1.out.secs y hmem).below (hb.mono hB)
      have hm := (H1.out.syms y hmem).below (hb.mono hB)
      obtain ⟨n1, hn1⟩ : ∃ q, y.l.length = q := ⟨_, rfl⟩
      obtain ⟨n2, hn2⟩ : ∃ q, y.ms.length = q := ⟨_, rfl⟩
      have hBr := Nat.le_trans hB hb.size
      have HC := objectValid'_any wr B y.a1 y.a2 y.c1 y.c2 n1 n2 y.l y.ms hn1.symm hn2.symm hs hm hBr (by omega) (by omega) q3 q4
      obtain ⟨v, hv⟩ : ∃ q, objOk (y.l.map Sp.s) y.ms = q := ⟨_, rfl⟩
      rw [hv] at HC
      rw [hn1] at p0
      rw [hn2] at p1
      have HC := hidden HC
      have HV := hidden hv
      have HY := hidden hy2
      clear hy hkl hy2 hmem q1 q2 q3 q4 hs hm hn1 hn2 hBr hv
      go_wp2_with fail
      refine HC.out.mono ?_
      clear HC p0 p1
      rintro e w2 ⟨rfl, hb2⟩
      have HB2 := hidden (hb.trans (hb2.mono hb.size))
      clear hb2 hb
      rcases v with _ | _
      · have hf0 : ok = false := by rw [← HOK.out]; exact validA_no HY.out HV.out
        subst hf0
        clear HOK HV HY hall
        go_wp2_with fail
        go_ret
        exact ⟨rfl, HB2.out⟩
      · have HA := hidden (allOk_next HY.out hall.out HV.out)
        clear HV HY hall
        go_wp2_with fail
        go_roundw
        case rel => exact ⟨k + 1, by go_num, by omega, HA, HB2.out⟩
        case measure => simp [intOf]; omega
    · have hi : ¬ (k : Int) < (n : Int) := by omega
      have ht : ok = decide ((n : Int) ≤ 4) := by
        have h1 := hall.out
        rw [List.take_of_length_le (by rw [← HN.out]; omega)] at h1
        rw [← HOK.out, validA_all h1, ← HN.out]
        by_cases h4 : n ≤ 4
        · rw [decide_eq_true h4, decide_eq_true (by omega)]
        · rw [decide_eq_false h4, decide_eq_false (by omega)]
      have HT := hidden ht
      clear HOK hall ht
      go_wp2_with fail
      go_ret
      exact ⟨by rw [HT.out]; rfl, hb⟩

end Go.Proofs.Ytiocchmlmcoieaa

/-
  The numbers of a layout are small, its lists are few and short.
-/
import Derived.Test.YtiocchmlmcoieaaLayE
namespace Go.Proofs.Ytiocchmlmcoieaa
open Go.RowKit

def SmallR (pl : List (List Int)) : Prop := ∀ r ∈ pl, ∀ z ∈ r, -1 ≤ z ∧ z ≤ 2000000
theorem wf_small {z : Int} (h : -1 ≤ z ∧ z ≤ 2000000) : (Lit.int .i64 z).wf = true := by
  simp [Lit.wf, IntKind.min, IntKind.max, IntKind.signed, IntKind.bits]
  omega
theorem small_put {pl : List (List Int)} (h : SmallR pl) {k j : Nat} {v : Int} (hv : -1 ≤ v ∧ v ≤ 2000000) : SmallR (put2 pl k j v) := fun r hr z hz => by
  unfold put2 at hr
  rcases List.mem_or_eq_of_mem_set hr with hr | hr
  · exact h r hr z hz
  · subst hr
    rcases List.mem_or_eq_of_mem_set hz with hz | hz
    · rw [List.getD_eq_getElem?_getD] at hz
      rcases hq : pl[k]? with _ | r
      · rw [hq] at hz; simp at hz
      · rw [hq] at hz; exact h r (List.mem_of_getElem? hq) z hz
    · subst hz; exact hv
theorem small_run : ∀ (ps : List Pk) (x : Lo), SmallR x.pl → SmallR (x.run ps).pl
  | [], _, h => h
  | p :: r, x, h => small_run r (x.step p) (small_put h (by have := upTo_bd x.e p.s.align; omega))
theorem small_lay (Ss : List (List Sx)) (base : Int) : ∀ n, SmallR (layK Ss base n).pl
  | 0 => fun r hr z hz => by
    change r ∈ zerosL Ss at hr
    unfold zerosL at hr
    obtain ⟨ss, _, rfl⟩ := List.mem_map.1 hr
    rw [(List.mem_replicate.1 hz).2]; omega
  | n + 1 => small_run _ _ (small_lay Ss base n)
theorem small_laid (L : List Oj) (base : Int) : SmallR (laidL L base).pl := by
  unfold laidL
  split
  · exact small_lay _ _ 3
  · intro r hr; simp at hr
theorem run_e : ∀ (ps : List Pk) (x : Lo), (∀ p ∈ ps, 0 ≤ p.s.long ∧ p.s.long ≤ 48) → (-1 ≤ x.e ∧ x.e ≤ 2000000) → -1 ≤ (x.run ps).e ∧ (x.run ps).e ≤ 2000000
  | [], _, _, h => h
  | p :: r, x, hp, _ => run_e r (x.step p) (fun q hq => hp q (by simp [hq])) (by
      have h1 := upTo_bd x.e p.s.align
      have h2 := hp p (by simp)
      show -1 ≤ upTo x.e p.s.align + p.s.long ∧ upTo x.e p.s.align + p.s.long ≤ 2000000
      omega)
theorem laid_e {Ss : List (List Sx)} {base : Int} (h : Fine Ss base) : ∀ n, -1 ≤ (layK Ss base n).e ∧ (layK Ss base n).e ≤ 2000000
  | 0 => by have := h.b0; have := h.b1; show -1 ≤ base ∧ base ≤ 2000000; omega
  | n + 1 => run_e _ _ (fun p hp => (h.pk (kindL_mem.1 hp).1).1.2) (by
      have := upTo_bd (layK Ss base n).e 8
      show -1 ≤ upTo (layK Ss base n).e 8 ∧ upTo (layK Ss base n).e 8 ≤ 2000000
      omega)
theorem fine_ok {L : List Oj} {base : Int} (h : layOk L base = true) : Fine (secsOf L) base := by
  unfold layOk at h
  rw [Bool.and_eq_true] at h
  have h2 := of_decide_eq_true h.2
  exact fine_of h.1 h2.1 h2.2.1
theorem small_ends (L : List Oj) (base : Int) : SmallR (endsL L base) := by
  unfold endsL
  split
  · rename_i hok
    intro r hr z hz
    unfold endsK at hr
    obtain ⟨m, _, rfl⟩ := List.mem_map.1 hr
    simp only [List.mem_cons, List.not_mem_nil, or_false] at hz
    rcases hz with rfl | rfl
    · have := upTo_bd (layK (secsOf L) base m).e 8; omega
    · exact laid_e (fine_ok hok) (m + 1)
  · intro r hr; simp at hr
theorem laid_few (L : List Oj) (base : Int) : (laidL L base).pl.length ≤ 4 ∧ ∀ r ∈ (laidL L base).pl, r.length ≤ 8 := by
  unfold laidL
  split
  · rename_i hok
    have hf := fine_ok hok
    have hl := layK_lens (secsOf L) base 3
    have h1 := congrArg List.length hl
    rw [List.length_map, List.length_map] at h1
    refine ⟨by have := hf.few; omega, fun r hr => ?_⟩
    have hm : r.length ∈ (layK (secsOf L) base 3).pl.map List.length := List.mem_map_of_mem hr
    rw [hl] at hm
    obtain ⟨ss, hs, e⟩ := List.mem_map.1 hm
    have := hf.each ss hs
    omega
  · exact ⟨by simp, by simp⟩
theorem ends_few (L : List Oj) (base : Int) : (endsL L base).length ≤ 4 ∧ ∀ r ∈ endsL L base, r.length ≤ 8 := by
  unfold endsL
  split
  · refine ⟨by unfold endsK; simp, fun r hr => ?_⟩
    unfold endsK at hr
    obtain ⟨m, _, rfl⟩ := List.mem_map.1 hr
    simp
  · exact ⟨by simp, by simp⟩
theorem Rw.len {W : World} {lo : Nat} {a : Option Addr} {n c : Nat} {l : List Rn} (h : Rw W lo (.slice a n c) l) : l.length = n := by
  rcases h.row.2 with ⟨e, h0⟩ | ⟨_, _, _, e, _⟩
  · have := (Value.slice.inj e).2.1; omega
  · have := (Value.slice.inj e).2.1; omega

end Go.Proofs.Ytiocchmlmcoieaa

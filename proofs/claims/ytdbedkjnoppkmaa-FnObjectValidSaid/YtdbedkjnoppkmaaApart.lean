/-
  The two halves of what a valid object is: its parts, and its names.
-/
import Derived.Test.YtdbedkjnoppkmaaWant4
import Derived.Test.YtdbedkjnoppkmaaNamSet
import Derived.Test.YtdbedkjnoppkmaaSortP
namespace Go.Proofs.Ytdbedkjnoppkmaa
open Go.RowKit

/-- Are there few sections and symbols, and is each valid? -/
def partsOk (ss : List Sx) (ms : List Sm) : Bool := ss.all (fun y => sectOk y ms.length) && (ms.all (fun z => symOk z ss) && (decide (ss.length ≤ 8) && decide (ms.length ≤ 12)))
/-- Do these symbols, behind those, clash with none? -/
def apart : List Sm → List Sm → Bool
  | _, [] => true
  | d, z :: r => d.all (fun x => !clash x z) && apart (d ++ [z]) r
theorem symsOk_split (ss : List Sx) : ∀ (ms d : List Sm), symsOk ss d ms = (ms.all (fun z => symOk z ss) && apart d ms)
  | [], d => by unfold symsOk apart; rfl
  | z :: r, d => by
    rw [symsOk, apart, List.all_cons, symsOk_split ss r (d ++ [z])]
    cases symOk z ss <;> cases (d.all fun x => !clash x z) <;> cases (r.all fun z => symOk z ss) <;> simp
theorem objOk_split (ss : List Sx) (ms : List Sm) : objOk ss ms = (partsOk ss ms && apart [] ms) := by
  unfold objOk partsOk
  rw [symsOk_split]
  cases ss.all (fun y => sectOk y ms.length) <;> cases ms.all (fun z => symOk z ss) <;> cases apart [] ms <;> simp
/-- The symbols that are not local. -/
def opens (ms : List Sm) : List Sm := ms.filter fun x => decide (x.bind ≠ 0)
theorem opens_clash (d : List Sm) (z : Sm) (h : z.bind ≠ 0) : d.all (fun x => !clash x z) = !memS ((opens d).map Sm.name) z.name := by
  induction d with
  | nil => rfl
  | cons x r ih =>
    rw [List.all_cons, ih]
    unfold opens
    by_cases hx : x.bind = 0
    · rw [List.filter_cons_of_neg (by simp [hx])]
      simp [clash, hx]
    · rw [List.filter_cons_of_pos (by simp [hx]), List.map_cons]
      by_cases hn : x.name = z.name <;> simp [clash, memS, hx, h, hn]
theorem opens_clash0 (d : List Sm) (z : Sm) (h : z.bind = 0) : d.all (fun x => !clash x z) = true := by
  rw [List.all_eq_true]
  intro x _
  simp [clash, h]
theorem opens_snoc (d : List Sm) (z : Sm) : opens (d ++ [z]) = opens d ++ if z.bind = 0 then [] else [z] := by
  unfold opens
  rw [List.filter_append]
  by_cases h : z.bind = 0
  · rw [if_pos h, List.filter_cons_of_neg (by simp [h])]; simp
  · rw [if_neg h, List.filter_cons_of_pos (by simp [h])]; simp
theorem opens_length (ms : List Sm) : (opens ms).length ≤ ms.length := List.length_filter_le _ _
theorem opens_wants {ss : List Sx} {ms : List Sm} (h : partsOk ss ms = true) : (opens ms).filter (fun m => decide (m.loc = -1)) = ms.filter wants := by
  unfold opens
  rw [List.filter_filter]
  apply List.filter_congr
  intro x hx
  unfold wants
  by_cases e : x.loc = -1
  · have hb : x.bind ≠ 0 := by
      unfold partsOk at h
      simp only [Bool.and_eq_true, List.all_eq_true] at h
      have hs := h.2.1 x hx
      unfold symOk at hs
      simp only [e, if_true, Bool.and_eq_true, decide_eq_true_eq] at hs
      exact hs.2.2
    simp [e, hb]
  · simp [e]
theorem opens_gives (ms : List Sm) : (opens ms).filter (fun m => decide (m.loc ≠ -1)) = ms.filter gives := by
  unfold opens
  rw [List.filter_filter]
  apply List.filter_congr
  intro x hx
  unfold gives
  rfl
/-- Names that are met once each, sorted, are the names put in one by one. -/
theorem sorted_once {ns names : List ByteArray} (hn : ns.Nodup) (hm : ∀ s, s ∈ ns ↔ s ∈ names) : ((ns.map fun s => s.data.toList).mergeSort fun x y => decide (x ≤ y)).map strL = names.foldl insertS [] := by
  obtain ⟨zs, hz⟩ : ∃ zs, (ns.map fun s => s.data.toList).mergeSort (fun x y => decide (x ≤ y)) = zs := ⟨_, rfl⟩
  have hp : zs.Pairwise (fun x y => decide (x ≤ y) = true) := by
    rw [← hz]
    exact List.pairwise_mergeSort (fun a b c h1 h2 => by simp only [decide_eq_true_eq] at *; exact List.le_trans h1 h2) (fun a b => by
      simp only [Bool.or_eq_true, decide_eq_true_eq]; exact List.le_total a b) _
  have hnd : zs.Nodup := by
    rw [← hz, (List.mergeSort_perm _ _).nodup_iff]
    unfold List.Nodup at hn ⊢
    rw [List.pairwise_map]
    exact hn.imp fun {a b} h e => h (ByteArray.ext (Array.toList_inj.1 e))
  rw [hz]
  apply sorted_ext
  · unfold SortedS
    rw [List.pairwise_map]
    refine (hp.and hnd).imp fun {a b} h => ?_
    rw [ltS_strL, bytesLess_eq, decide_eq_true_eq]
    have h1 : a ≤ b := of_decide_eq_true h.1
    rcases less_or a b with h2 | h2 | h2
    · rwa [bytesLess_eq, decide_eq_true_eq] at h2
    · exact absurd h2 h.2
    · rw [bytesLess_eq, decide_eq_true_eq] at h2
      exact absurd h2 (List.not_lt.2 h1)
  · exact sorted_fold names [] List.Pairwise.nil
  · intro x
    rw [mem_fold_iff, List.mem_map, ← hm x]
    constructor
    · rintro ⟨l, hl, rfl⟩
      rw [← hz] at hl
      obtain ⟨s, hs, rfl⟩ := List.mem_map.1 (List.mem_mergeSort.1 hl)
      rw [strL_data]; exact .inr hs
    · rintro (h | h)
      · cases h
      · exact ⟨x.data.toList, by rw [← hz]; exact List.mem_mergeSort.2 (List.mem_map.2 ⟨x, h, rfl⟩), strL_data x⟩

end Go.Proofs.Ytdbedkjnoppkmaa

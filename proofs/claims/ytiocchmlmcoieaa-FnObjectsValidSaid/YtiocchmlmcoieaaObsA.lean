/-
  A list of objects is appended, a part of it taken; what that does to its being valid.
-/
import Derived.Test.YtiocchmlmcoieaaDrawOT
import Derived.Test.YtiocchmlmcoieaaRowI
namespace Go.Proofs.Ytiocchmlmcoieaa
open Go.RowKit

theorem Objs.flat {w : World} {B : Nat} {a : Option Addr} {L : List Oj} (h : Objs w B a L) (hn : 0 < L.length) : ∃ b off, a = some ⟨b, off, none⟩ ∧ b < B ∧ ∀ (j : Nat) (u : Value), (flatO L)[j]? = some u → w.cell? ⟨b, off + j, none⟩ = some u := by
  obtain ⟨b, off, ha, hb, hc⟩ := h.row hn
  refine ⟨b, off, ha, hb, fun j u hu => ?_⟩
  have hj : j < L.length * 2 := by rw [← flatO_length]; exact (List.getElem?_eq_some_iff.1 hu).1
  obtain ⟨y, hy⟩ : ∃ y, L[j / 2]? = some y := ⟨_, List.getElem?_eq_getElem (by omega)⟩
  obtain ⟨f0, f1⟩ := flatO_at L (j / 2) y hy
  obtain ⟨c0, c1⟩ := hc (j / 2) y hy
  rcases Nat.mod_two_eq_zero_or_one j with hm | hm
  · have e : j / 2 * 2 = j := by omega
    rw [e] at f0 c0
    rw [f0] at hu
    rw [c0, ← hu]
  · have e : j / 2 * 2 + 1 = j := by omega
    rw [Nat.add_assoc, e] at c1
    rw [e] at f1
    rw [f1] at hu
    rw [c1, ← hu]
theorem flatO_append (L l : List Oj) : flatO (L ++ l) = flatO L ++ flatO l := by simp [flatO]
theorem flatO_one (L : List Oj) : ∀ u ∈ flatO L, u.oneCell' = true := fun u hu => by
  unfold flatO at hu
  rw [List.mem_flatMap] at hu
  obtain ⟨y, _, hy⟩ := hu
  simp at hy
  rcases hy with rfl | rfl <;> rfl
/-- append(row, objects...). -/
theorem wp_append_objs {o : Oper} {a : Act} {w : World} {K : Act → World → Prop} {Q : Exit → Act → World → Prop} (s x : Operand) (ho : o.op = .call { callee := .builtin .append, args := #[s, x], argTypes := #[23, 23] })
    (base : Nat) (v : Value) (N : Nat) (L : List Oj) (hs : a.eval s = v) (hown : w.ownsRow base 29 2 v N (flatO L)) (ad : Option Addr) (m c B : Nat) (l : List Oj) (hm : m = l.length) (hx : a.eval x = .slice ad m c) (hi : Objs w B ad l) (h63 : N + m ≤ 1000000000) (hbase : base ≤ w.heap.size)
    (h : ∀ v' w', w'.ownsRow base 29 2 v' (N + m) (flatO (L ++ l)) → w.grownBy w' v.ownBlock → K (a.put o.dst v') w') : o.wp Try.prog a w K Q := by
  obtain ⟨i0, hi0, hz0, hz1, hz2⟩ := info_parts Try.info_object
  rcases Nat.eq_zero_or_pos l.length with h0 | hpos
  · rcases ad with _ | ⟨b, off, ext⟩
    · obtain rfl : l = [] := List.eq_nil_of_length_eq_zero h0
      obtain rfl : m = 0 := by rw [hm]; rfl
      unfold Oper.wp execOp
      simp only [ho, resolve, invoke, builtin, Sem.run_bind, Sem.run_pure, Result.andThen_ok, List.map_toArray, List.map_cons, List.map_nil, hs, hx, run_append_none 23 o.type i0 Try.underlying23 hi0 v N _ hown c]
      refine h v w ?_ ⟨rfl, rfl, rfl, Nat.le_refl _, fun _ _ _ => rfl⟩
      rw [Nat.add_zero, List.append_nil]; exact hown
    · obtain rfl : l = [] := List.eq_nil_of_length_eq_zero h0
      refine wp_append_own w s x 23 ho base 29 i0 (.agg #[.slice none 0 0, .slice none 0 0]) 2 48 Try.underlying23 hi0 hz0 hz1 hz2 rfl (by decide) v N (flatO L) hs hown ⟨b, off, ext⟩ m c [] hx (by rw [hm]; rfl) (fun j u hu => by simp at hu) (fun u hu => by simp at hu) (by unfold maxLen; omega) (by omega) hbase fun v' w' h1 h2 _ => h v' w' ?_ h2
      simpa using h1
  · obtain ⟨b, off, e, _, hc⟩ := hi.flat hpos
    rw [e] at hx
    refine wp_append_own w s x 23 ho base 29 i0 (.agg #[.slice none 0 0, .slice none 0 0]) 2 48 Try.underlying23 hi0 hz0 hz1 hz2 rfl (by decide) v N (flatO L) hs hown ⟨b, off, none⟩ m c (flatO l) hx (by rw [flatO_length, hm]) (fun j u hu => by rw [addr_at]; exact hc j u hu) (flatO_one l) (by unfold maxLen; omega) (by omega) hbase fun v' w' h1 h2 _ => h v' w' ?_ h2
    rw [flatO_append]; exact h1
/-- A part of valid objects is valid. -/
theorem valid_drop {L : List Oj} (h : validA (L.map Oj.o) = true) (k : Nat) : validA ((L.drop k).map Oj.o) = true := by
  obtain ⟨h1, h2⟩ := validA_parts h
  rw [List.length_map] at h1
  unfold validA
  rw [Bool.and_eq_true, List.all_eq_true]
  refine ⟨decide_eq_true (by rw [List.length_map, List.length_drop]; omega), fun o ho => ?_⟩
  obtain ⟨y, hy, rfl⟩ := List.mem_map.1 ho
  exact h2 _ (List.mem_map_of_mem (List.mem_of_mem_drop hy))
/-- With an invalid one they are not. -/
theorem valid_bad (L : List Oj) {y : Oj} (hy : objOk (y.l.map Sp.s) y.ms = false) : validA ((L ++ [y]).map Oj.o) = false := by
  refine validA_no (k := L.length) (y := y) ?_ hy
  simp
theorem bad_object : objOk [] [⟨⟨#[]⟩, 0, 0, 0⟩] = false := by decide
theorem Objs.drop {w : World} {B : Nat} {b off : Nat} {L : List Oj} (h : Objs w B (some ⟨b, off, none⟩) L) (k : Nat) : Objs w B (some ⟨b, off + k * 2, none⟩) (L.drop k) := by
  refine ⟨fun hn => ?_, fun y hy => h.secs y (List.mem_of_mem_drop hy), fun y hy => h.syms y (List.mem_of_mem_drop hy)⟩
  rw [List.length_drop] at hn
  obtain ⟨b', off', ha, hb, hc⟩ := h.row (by omega)
  injection ha with ha
  injection ha with ha1 ha2
  subst ha1
  subst ha2
  refine ⟨b, off + k * 2, rfl, hb, fun i y hi => ?_⟩
  rw [List.getElem?_drop] at hi
  have := hc _ y hi
  have e : off + (k + i) * 2 = off + k * 2 + i * 2 := by omega
  rwa [e] at this

end Go.Proofs.Ytiocchmlmcoieaa

/-
  A region that draws its order, where what the world is asked to be hangs on the operations that are done, and on what they gave.
-/
import Derived.Test.YtdbedkjnoppkmaaRegionW
namespace Go.Proofs.Ytdbedkjnoppkmaa
open Go.RowKit

section
variable {P : Program} {ops : Array Oper} {Q : Exit → Act → World → Prop}

/-- Between two operations of a region that draws its order: what 'J' says of the world and of the values of the operations that are done. -/
structure Going4 (ops : Array Oper) (J : (Nat → Prop) → World → (Nat → Value) → Prop) (a0 : Act) (listed : Array Bool) (a : Act) (w : World) (vals : Nat → Value) : Prop where
  world : J (fun u => listed.getD u false = true) w vals
  defers : a.defers = a0.defers
  size : a.tmps.size = a0.tmps.size
  down : ∀ (u : Nat) (o : Oper), listed.getD u false = true → ops[u]? = some o → ∀ e ∈ o.after, Region.binds .any e = true → listed.getD e.on false = true
  others : ∀ s, (∀ (i : Nat) (o : Oper), ops[i]? = some o → o.dst ≠ some s) → a.tmps.getD s undef = a0.tmps.getD s undef
  done : ∀ (i : Nat) (o : Oper) (d : Nat), ops[i]? = some o → listed.getD i false = true → o.dst = some d → a.tmps.getD d undef = vals i

/-- What one operation leaves. -/
def After4 (D : Nat → Prop) (J : (Nat → Prop) → World → (Nat → Value) → Prop) (vals : Nat → Value) (i : Nat) (d : Option Tmp) (a : Act) (a' : Act) (w' : World) : Prop :=
  ∃ v, a' = a.put d v ∧ J (fun u => u = i ∨ D u) w' (upd vals i v)
theorem After4.mk {D : Nat → Prop} {J : (Nat → Prop) → World → (Nat → Value) → Prop} {vals : Nat → Value} {i : Nat} {d : Option Tmp} {a : Act} {a' : Act} {w' : World} (v : Value) (h : a' = a.put d v) (hJ : J (fun u => u = i ∨ D u) w' (upd vals i v)) : After4 D J vals i d a a' w' := ⟨v, h, hJ⟩
/-- What is asked of one operation. -/
def StepsTo4 (P : Program) (ops : Array Oper) (J : (Nat → Prop) → World → (Nat → Value) → Prop) (a0 : Act) (Q : Exit → Act → World → Prop) (i : Nat) (o : Oper) : Prop :=
  ∀ a w (D : Nat → Prop) vals, J D w vals → (∀ (u : Nat) (o : Oper), D u → ops[u]? = some o → ∀ e ∈ o.after, Region.binds .any e = true → D e.on) → (∀ e ∈ o.after, Region.binds .any e = true → D e.on) → ¬ D i → (∀ s, (∀ (i : Nat) (o : Oper), ops[i]? = some o → o.dst ≠ some s) → a.tmps.getD s undef = a0.tmps.getD s undef) →
    (∀ e ∈ o.after, ∀ (oj : Oper) (d : Nat), ops[e.on]? = some oj → oj.dst = some d → e.ground = Ground.data → a.tmps.getD d undef = vals e.on) →
    o.wp P a w (After4 D J vals i o.dst a) Q

theorem wp_region_vals {id : Nat} {a0 : Act} {w0 : World} (hm : P.follows .mixedOrders = true) (J : (Nat → Prop) → World → (Nat → Value) → Prop)
    (hguard : ∀ (i : Nat) (o : Oper), ops[i]? = some o → o.guard = none)
    (hback : ∀ (i : Nat) (o : Oper), ops[i]? = some o → ∀ e ∈ o.after, Region.binds .any e = true → e.on < i)
    (hdst : ∀ (i j : Nat) (oi oj : Oper) (d : Nat), ops[i]? = some oi → ops[j]? = some oj → oi.dst = some d → oj.dst = some d → i = j)
    (hsz : ∀ (i : Nat) (o : Oper) (d : Nat), ops[i]? = some o → o.dst = some d → d < a0.tmps.size)
    (hJ : ∃ vals, J (fun _ => False) w0.drew vals)
    (hstep : ∀ (i : Nat) (o : Oper), ops[i]? = some o → StepsTo4 P ops J a0 Q i o)
    (hfin : ∀ a w vals, Going4 ops J a0 (Array.replicate ops.size true) a w vals → Q .normal a w) :
    (Code.region id ops true).wp P Q a0 w0 := by
  have key : ∀ (fuel : Nat) (listed : Array Bool) (a : Act) (w : World) (vals : Nat → Value), listed.size = ops.size → ((List.range ops.size).filter fun j => !listed.getD j true).length ≤ fuel → fuel ≤ ops.size → Going4 ops J a0 listed a w vals →
      wpAny P .any ops Q fuel listed a w := by
    have last : ∀ (listed : Array Bool) (a : Act) (w : World) (vals : Nat → Value), listed.size = ops.size → Region.ready .any ops listed = [] → Going4 ops J a0 listed a w vals → Q .normal a w := by
      intro listed a w vals hs hr hg
      have all : ∀ i, i < ops.size → listed.getD i false = true := by
        intro i
        induction i using Nat.strongRecOn with
        | ind i ih =>
          intro hi
          rcases hb : listed.getD i false with _ | _
          · exfalso
            have hmem : i ∈ Region.ready .any ops listed := by
              unfold Region.ready
              simp only [List.mem_filter, List.mem_range, Bool.and_eq_true]
              refine ⟨hi, ?_, ?_⟩
              · have : listed.getD i true = listed.getD i false := by
                  simp [Array.getD_eq_getD_getElem?, Array.getElem?_eq_getElem (show i < listed.size by omega)]
                rw [this, hb]; rfl
              · rw [Array.getElem?_eq_getElem hi]
                simp only [Option.map_some, Option.getD_some, Array.all_eq_true]
                intro j hj
                rcases hbd : Region.binds .any (ops[i].after[j]) with _ | _
                · simp
                · have hlt := hback i ops[i] (Array.getElem?_eq_getElem hi) (ops[i].after[j]) (Array.getElem_mem hj) hbd
                  have := ih _ hlt (by omega)
                  simp [this]
            rw [hr] at hmem; simp at hmem
          · rfl
      have hD : (fun u => listed.getD u false = true) = (fun u => (Array.replicate ops.size true).getD u false = true) := by
        funext u
        apply propext
        by_cases hu : u < ops.size
        · simp [all u hu, Array.getD_eq_getD_getElem?, hu]
        · simp [Array.getD_eq_getD_getElem?, hu, hs]
      refine hfin a w vals ⟨hD ▸ hg.world, hg.defers, hg.size, ?_, hg.others, fun i o d ho _ hd => ?_⟩
      · intro u o _ ho e he hbd
        have hu : u < ops.size := by
          rcases Nat.lt_or_ge u ops.size with h | h
          · exact h
          · rw [Array.getElem?_eq_none h] at ho; cases ho
        have := hback u o ho e he hbd
        simp [Array.getD_eq_getD_getElem?, show e.on < ops.size by omega]
      have hi : i < ops.size := by
        rcases Nat.lt_or_ge i ops.size with h | h
        · exact h
        · rw [Array.getElem?_eq_none h] at ho; cases ho
      exact hg.done i o d ho (all i hi) hd
    intro fuel
    induction fuel with
    | zero =>
      intro listed a w vals hs hn hfu hg
      have hr : Region.ready .any ops listed = [] := by
        have h0 : ((List.range ops.size).filter fun j => !listed.getD j true) = [] := List.eq_nil_of_length_eq_zero (by omega)
        unfold Region.ready
        rw [List.filter_eq_nil_iff] at h0 ⊢
        intro j hj hc
        exact h0 j hj (by simp only [Bool.and_eq_true] at hc; exact hc.1)
      exact ⟨hr, last listed a w vals hs hr hg⟩
    | succ fuel ih =>
      intro listed a w vals hs hn hfu hg
      refine ⟨fun hr => last listed a w vals hs hr hg, fun i hi => ?_⟩
      unfold Region.ready at hi
      simp only [List.mem_filter, List.mem_range, Bool.and_eq_true] at hi
      obtain ⟨hlt, hu, haf⟩ := hi
      have ho : ops[i]? = some ops[i] := Array.getElem?_eq_getElem hlt
      have hu' : listed.getD i true = false := by simpa using hu
      unfold wpOp
      rw [ho]
      have hw : Region.wanted ops[i] (yielded ops a.tmps) = true := by
        unfold Region.wanted; rw [hguard i _ ho]
      simp only [hw, if_true]
      have hpre : ∀ e ∈ ops[i].after, Region.binds .any e = true → listed.getD e.on false = true := by
        intro e he hbind
        rw [ho] at haf
        simp only [Option.map_some, Option.getD_some, Array.all_eq_true] at haf
        obtain ⟨k, hk, rfl⟩ := Array.getElem_of_mem he
        have := haf k hk
        simpa [hbind] using this
      have hfi : listed.getD i false ≠ true := by
        intro h
        have : listed.getD i true = listed.getD i false := by
          simp [Array.getD_eq_getD_getElem?, Array.getElem?_eq_getElem (show i < listed.size by omega)]
        rw [hu', h] at this; cases this
      have hset : ∀ u, (listed.setIfInBounds i true).getD u false = true ↔ u = i ∨ listed.getD u false = true := by
        intro u
        by_cases hui : i = u
        · subst hui
          simp [Array.getD_eq_getD_getElem?, hs, hlt]
        · have hne : ¬ u = i := fun e => hui e.symm
          simp [Array.getD_eq_getD_getElem?, hui, hne]
      refine Or.inl (Oper.wp_mono ?_ (hstep i _ ho a w (fun u => listed.getD u false = true) vals hg.world hg.down hpre hfi hg.others ?_))
      · rintro a' w' ⟨v, rfl, hJ'⟩
        refine ih _ _ _ (upd vals i v) (by simp [hs]) (open_less hlt hs hu' hn) (by omega) ⟨(by have hD : (fun u => (listed.setIfInBounds i true).getD u false = true) = (fun u => u = i ∨ listed.getD u false = true) := (funext fun u => propext (hset u)); rw [hD]; exact hJ'), ?_, ?_, ?_, ?_, ?_⟩
        · rw [← hg.defers]; unfold Act.put; split <;> rfl
        · rw [← hg.size]; unfold Act.put; split <;> simp
        · intro u o hu2 hou e he hbd
          rw [hset] at hu2 ⊢
          rcases hu2 with rfl | hu2
          · rw [ho] at hou; injection hou with hou; subst hou
            exact .inr (hpre e he hbd)
          · exact .inr (hg.down u o hu2 hou e he hbd)
        · intro s hs'
          rw [← hg.others s hs']
          have := hs' i _ ho
          unfold Act.put
          split
          · rename_i d hd
            have hne : d ≠ s := fun e => this (by rw [hd, e])
            simp [Array.getD_eq_getD_getElem?, hne]
          · rfl
        · intro j oj d hoj hl hd
          by_cases hji : i = j
          · subst hji
            rw [ho] at hoj; injection hoj with hoj
            rw [← hoj] at hd
            have hdz := hsz i _ d ho hd
            rw [← hg.size] at hdz
            rw [hd]
            have e : upd vals i v i = v := if_pos rfl
            rw [e]
            simp [Act.put, Array.getD_eq_getD_getElem?, hdz]
          · have hl' : listed.getD j false = true := by
              simpa [Array.getD_eq_getD_getElem?, Array.getElem?_setIfInBounds, hji] using hl
            have hr := hg.done j oj d hoj hl' hd
            have hne : ops[i].dst ≠ some d := fun e => hji (hdst i j _ _ d ho hoj e hd)
            have e : (a.put ops[i].dst v).tmps.getD d undef = a.tmps.getD d undef := by
              unfold Act.put
              split
              · rename_i d' hd'
                have : d' ≠ d := fun e => hne (by rw [hd', e])
                simp [Array.getD_eq_getD_getElem?, this]
              · rfl
            have e2 : upd vals i v j = vals j := if_neg fun e => hji e.symm
            rw [e, e2]; exact hr
      · intro e he oj d hoj hd hdata
        exact hg.done e.on oj d hoj (hpre e he (by rw [Region.binds, hdata])) hd
  obtain ⟨vals, hJ⟩ := hJ
  refine wp_region_any hm (key ops.size _ a0 w0.drew vals (by simp) ?_ (Nat.le_refl _) ⟨(by have hD : (fun u => (Array.replicate ops.size false).getD u false = true) = (fun _ => False) := (by funext u; apply propext; by_cases hu : u < ops.size <;> simp [Array.getD_eq_getD_getElem?, hu]); rw [hD]; exact hJ), rfl, rfl, fun u o hl => ?_, fun _ _ => rfl, fun i o d ho hl hd => ?_⟩)
  · exact Nat.le_trans (List.length_filter_le _ _) (by simp)
  · exfalso
    by_cases hu : u < ops.size <;> simp [Array.getD_eq_getD_getElem?, hu] at hl
  · exfalso
    by_cases hu : i < ops.size <;> simp [Array.getD_eq_getD_getElem?, hu] at hl
end
theorem wp_region_vals_lit {P : Program} {l : List Oper} {Q : Exit → Act → World → Prop} {id : Nat} {a0 : Act} {w0 : World} (hm : P.follows .mixedOrders = true) (J : (Nat → Prop) → World → (Nat → Value) → Prop)
    (hok : plainRegion l a0.tmps.size = true) (hJ : ∃ vals, J (fun _ => False) w0.drew vals)
    (hstep : AllFrom (fun i o => StepsTo4 P l.toArray J a0 Q i o) 0 l)
    (hfin : ∀ a w vals, Going4 l.toArray J a0 (Array.replicate l.length true) a w vals → Q .normal a w) :
    (Code.region id l.toArray true).wp P Q a0 w0 := by
  unfold plainRegion at hok
  simp only [Bool.and_eq_true, decide_eq_true_eq] at hok
  obtain ⟨⟨⟨h1, h2⟩, h3⟩, h4⟩ := hok
  have get : ∀ (i : Nat) (o : Oper), l.toArray[i]? = some o → l[i]? = some o := fun i o h => by simpa using h
  refine wp_region_vals hm J ?_ ?_ ?_ ?_ hJ ?_ (by simpa using hfin)
  · intro i o ho
    rw [List.all_eq_true] at h1
    have := h1 o (List.mem_of_getElem? (get i o ho))
    simpa using this
  · intro i o ho e he hbd
    rw [List.all_eq_true] at h2
    have := h2 (o, i) (by rw [List.mem_zipIdx_iff_getElem?]; exact get i o ho)
    simp only [Array.all_eq_true] at this
    obtain ⟨k, hk, rfl⟩ := Array.getElem_of_mem he
    have := this k hk
    rw [hbd] at this
    simpa using this
  · intro i j oi oj d hi hj di dj
    exact nodup_dst l h3 i j oi oj d (get i oi hi) (get j oj hj) di dj
  · intro i o d ho hd
    rw [List.all_eq_true] at h4
    have := h4 o (List.mem_of_getElem? (get i o ho))
    rw [hd] at this
    simpa using this
  · intro i o ho
    have := AllFrom.get l 0 hstep i o (get i o ho)
    rwa [Nat.zero_add] at this

end Go.Proofs.Ytdbedkjnoppkmaa

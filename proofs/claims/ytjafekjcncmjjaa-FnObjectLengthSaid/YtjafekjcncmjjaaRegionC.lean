/-
  A region that draws its order, where what the world is asked to be hangs on the operations that are done.
-/
import Derived.Test.YtjafekjcncmjjaaRegion
namespace Go.Proofs.Ytjafekjcncmjjaa
open Go.RowKit

section
variable {P : Program} {ops : Array Oper} {Q : Exit → Act → World → Prop}

/-- Between two operations of a region that draws its order: the world is as 'J' says, and each value that was reckoned meets what 'R' asks of its operation. -/
structure Going3 (ops : Array Oper) (J : (Nat → Prop) → World → Prop) (R : Nat → World → Value → Prop) (a0 : Act) (listed : Array Bool) (a : Act) (w : World) : Prop where
  world : J (fun u => listed.getD u false = true) w
  defers : a.defers = a0.defers
  size : a.tmps.size = a0.tmps.size
  down : ∀ (u : Nat) (o : Oper), listed.getD u false = true → ops[u]? = some o → ∀ e ∈ o.after, Region.binds .any e = true → listed.getD e.on false = true
  others : ∀ s, (∀ (i : Nat) (o : Oper), ops[i]? = some o → o.dst ≠ some s) → a.tmps.getD s undef = a0.tmps.getD s undef
  done : ∀ (i : Nat) (o : Oper) (d : Nat), ops[i]? = some o → listed.getD i false = true → Needed ops (fun u => listed.getD u false = true) i → o.dst = some d → R i w (a.tmps.getD d undef)

/-- What one operation leaves. -/
def After3 (ops : Array Oper) (D : Nat → Prop) (J : (Nat → Prop) → World → Prop) (R : Nat → World → Value → Prop) (i : Nat) (d : Option Tmp) (a : Act) (w : World) (a' : Act) (w' : World) : Prop :=
  ∃ v, a' = a.put d v ∧ J (fun u => u = i ∨ D u) w' ∧ (∀ j u, NeededBy ops D i j → R j w u → R j w' u) ∧ R i w' v
theorem After3.mk {ops : Array Oper} {D : Nat → Prop} {J : (Nat → Prop) → World → Prop} {R : Nat → World → Value → Prop} {i : Nat} {d : Option Tmp} {a : Act} {w : World} {a' : Act} {w' : World} (v : Value) (h : a' = a.put d v) (hJ : J (fun u => u = i ∨ D u) w')
    (hs : ∀ j u, NeededBy ops D i j → R j w u → R j w' u) (hR : R i w' v) : After3 ops D J R i d a w a' w' := ⟨v, h, hJ, hs, hR⟩
/-- What is asked of one operation. -/
def StepsTo3 (P : Program) (ops : Array Oper) (J : (Nat → Prop) → World → Prop) (R : Nat → World → Value → Prop) (a0 : Act) (Q : Exit → Act → World → Prop) (i : Nat) (o : Oper) : Prop :=
  ∀ a w (D : Nat → Prop), J D w → (∀ (u : Nat) (o : Oper), D u → ops[u]? = some o → ∀ e ∈ o.after, Region.binds .any e = true → D e.on) → (∀ e ∈ o.after, Region.binds .any e = true → D e.on) → ¬ D i → (∀ s, (∀ (i : Nat) (o : Oper), ops[i]? = some o → o.dst ≠ some s) → a.tmps.getD s undef = a0.tmps.getD s undef) →
    (∀ e ∈ o.after, ∀ (oj : Oper) (d : Nat), ops[e.on]? = some oj → oj.dst = some d → e.ground = Ground.data → R e.on w (a.tmps.getD d undef)) →
    o.wp P a w (After3 ops D J R i o.dst a w) Q

theorem wp_region_typed3 {id : Nat} {a0 : Act} {w0 : World} (hm : P.follows .mixedOrders = true) (J : (Nat → Prop) → World → Prop) (R : Nat → World → Value → Prop)
    (hguard : ∀ (i : Nat) (o : Oper), ops[i]? = some o → o.guard = none)
    (hback : ∀ (i : Nat) (o : Oper), ops[i]? = some o → ∀ e ∈ o.after, Region.binds .any e = true → e.on < i)
    (hdst : ∀ (i j : Nat) (oi oj : Oper) (d : Nat), ops[i]? = some oi → ops[j]? = some oj → oi.dst = some d → oj.dst = some d → i = j)
    (hsz : ∀ (i : Nat) (o : Oper) (d : Nat), ops[i]? = some o → o.dst = some d → d < a0.tmps.size)
    (hJ : J (fun _ => False) w0.drew)
    (hstep : ∀ (i : Nat) (o : Oper), ops[i]? = some o → StepsTo3 P ops J R a0 Q i o)
    (hfin : ∀ a w, Going3 ops J R a0 (Array.replicate ops.size true) a w → Q .normal a w) :
    (Code.region id ops true).wp P Q a0 w0 := by
  have key : ∀ (fuel : Nat) (listed : Array Bool) (a : Act) (w : World), listed.size = ops.size → ((List.range ops.size).filter fun j => !listed.getD j true).length ≤ fuel → fuel ≤ ops.size → Going3 ops J R a0 listed a w →
      wpAny P .any ops Q fuel listed a w := by
    have last : ∀ (listed : Array Bool) (a : Act) (w : World), listed.size = ops.size → Region.ready .any ops listed = [] → Going3 ops J R a0 listed a w → Q .normal a w := by
      intro listed a w hs hr hg
      have all : ∀ i, i < ops.size → listed.getD i false = true := by
        intro i
        induction i using Nat.strongRecOn with
        | ind i ih =>
          intro hi
          rcases hb : listed.getD i false with _ | _
          · exfalso
            have hmem : i ∈ Region.ready .any ops listed := by
              unfold Region.ready
              simp only [List.mem_filter, List.mem_range, Bool.and_eq_true]
              refine ⟨hi, ?_, ?_⟩
              · have : listed.getD i true = listed.getD i false := by
                  simp [Array.getD_eq_getD_getElem?, Array.getElem?_eq_getElem (show i < listed.size by omega)]
                rw [this, hb]; rfl
              · rw [Array.getElem?_eq_getElem hi]
                simp only [Option.map_some, Option.getD_some, Array.all_eq_true]
                intro j hj
                rcases hbd : Region.binds .any (ops[i].after[j]) with _ | _
                · simp
                · have hlt := hback i ops[i] (Array.getElem?_eq_getElem hi) (ops[i].after[j]) (Array.getElem_mem hj) hbd
                  have := ih _ hlt (by omega)
                  simp [this]
            rw [hr] at hmem; simp at hmem
          · rfl
      have hD : (fun u => listed.getD u false = true) = (fun u => (Array.replicate ops.size true).getD u false = true) := by
        funext u
        apply propext
        by_cases hu : u < ops.size
        · simp [all u hu, Array.getD_eq_getD_getElem?, hu]
        · simp [Array.getD_eq_getD_getElem?, hu, hs]
      refine hfin a w ⟨hD ▸ hg.world, hg.defers, hg.size, ?_, hg.others, fun i o d ho _ hne hd => ?_⟩
      · intro u o _ ho e he hbd
        have hu : u < ops.size := by
          rcases Nat.lt_or_ge u ops.size with h | h
          · exact h
          · rw [Array.getElem?_eq_none h] at ho; cases ho
        have := hback u o ho e he hbd
        simp [Array.getD_eq_getD_getElem?, show e.on < ops.size by omega]
      have hi : i < ops.size := by
        rcases Nat.lt_or_ge i ops.size with h | h
        · exact h
        · rw [Array.getElem?_eq_none h] at ho; cases ho
      refine hg.done i o d ho (all i hi) ?_ hd
      rcases hne with h | ⟨u, hu, hnu⟩
      · exact .inl h
      · exfalso
        have hus : u < ops.size := by
          unfold users at hu
          simp only [List.mem_filter, List.mem_range] at hu
          exact hu.1
        simp [Array.getD_eq_getD_getElem?, hus] at hnu
    intro fuel
    induction fuel with
    | zero =>
      intro listed a w hs hn hfu hg
      have hr : Region.ready .any ops listed = [] := by
        have h0 : ((List.range ops.size).filter fun j => !listed.getD j true) = [] := List.eq_nil_of_length_eq_zero (by omega)
        unfold Region.ready
        rw [List.filter_eq_nil_iff] at h0 ⊢
        intro j hj hc
        exact h0 j hj (by simp only [Bool.and_eq_true] at hc; exact hc.1)
      exact ⟨hr, last listed a w hs hr hg⟩
    | succ fuel ih =>
      intro listed a w hs hn hfu hg
      refine ⟨fun hr => last listed a w hs hr hg, fun i hi => ?_⟩
      unfold Region.ready at hi
      simp only [List.mem_filter, List.mem_range, Bool.and_eq_true] at hi
      obtain ⟨hlt, hu, haf⟩ := hi
      have ho : ops[i]? = some ops[i] := Array.getElem?_eq_getElem hlt
      have hu' : listed.getD i true = false := by simpa using hu
      unfold wpOp
      rw [ho]
      have hw : Region.wanted ops[i] (yielded ops a.tmps) = true := by
        unfold Region.wanted; rw [hguard i _ ho]
      simp only [hw, if_true]
      have hpre : ∀ e ∈ ops[i].after, Region.binds .any e = true → listed.getD e.on false = true := by
        intro e he hbind
        rw [ho] at haf
        simp only [Option.map_some, Option.getD_some, Array.all_eq_true] at haf
        obtain ⟨k, hk, rfl⟩ := Array.getElem_of_mem he
        have := haf k hk
        simpa [hbind] using this
      have hfi : listed.getD i false ≠ true := by
        intro h
        have : listed.getD i true = listed.getD i false := by
          simp [Array.getD_eq_getD_getElem?, Array.getElem?_eq_getElem (show i < listed.size by omega)]
        rw [hu', h] at this; cases this
      have hset : ∀ u, (listed.setIfInBounds i true).getD u false = true ↔ u = i ∨ listed.getD u false = true := by
        intro u
        by_cases hui : i = u
        · subst hui
          simp [Array.getD_eq_getD_getElem?, hs, hlt]
        · have hne : ¬ u = i := fun e => hui e.symm
          simp [Array.getD_eq_getD_getElem?, hui, hne]
      refine Or.inl (Oper.wp_mono ?_ (hstep i _ ho a w (fun u => listed.getD u false = true) hg.world hg.down hpre hfi hg.others ?_))
      · rintro a' w' ⟨v, rfl, hJ', hst, hv⟩
        refine ih _ _ _ (by simp [hs]) (open_less hlt hs hu' hn) (by omega) ⟨(by have hD : (fun u => (listed.setIfInBounds i true).getD u false = true) = (fun u => u = i ∨ listed.getD u false = true) := (funext fun u => propext (hset u)); rw [hD]; exact hJ'), ?_, ?_, ?_, ?_, ?_⟩
        · rw [← hg.defers]; unfold Act.put; split <;> rfl
        · rw [← hg.size]; unfold Act.put; split <;> simp
        · intro u o hu2 hou e he hbd
          rw [hset] at hu2 ⊢
          rcases hu2 with rfl | hu2
          · rw [ho] at hou; injection hou with hou; subst hou
            exact .inr (hpre e he hbd)
          · exact .inr (hg.down u o hu2 hou e he hbd)
        · intro s hs'
          rw [← hg.others s hs']
          have := hs' i _ ho
          unfold Act.put
          split
          · rename_i d hd
            have hne : d ≠ s := fun e => this (by rw [hd, e])
            simp [Array.getD_eq_getD_getElem?, hne]
          · rfl
        · intro j oj d hoj hl hnd hd
          by_cases hji : i = j
          · subst hji
            rw [ho] at hoj; injection hoj with hoj
            rw [← hoj] at hd
            have hdz := hsz i _ d ho hd
            rw [← hg.size] at hdz
            rw [hd]
            simpa [Act.put, Array.getD_eq_getD_getElem?, Array.getElem?_setIfInBounds, hdz] using hv
          · have hl' : listed.getD j false = true := by
              simpa [Array.getD_eq_getD_getElem?, Array.getElem?_setIfInBounds, hji] using hl
            have hby : NeededBy ops (fun u => listed.getD u false = true) i j := by
              refine ⟨hl', ?_⟩
              rcases hnd with h | ⟨u, hu3, hnu⟩
              · exact .inl h
              · refine .inr ⟨u, hu3, ?_, ?_⟩
                · rintro rfl; exact hnu ((hset u).2 (.inl rfl))
                · intro h; exact hnu ((hset u).2 (.inr h))
            have hny : Needed ops (fun u => listed.getD u false = true) j := Or.imp (fun h => h) (fun ⟨u, h1, _, h2⟩ => ⟨u, h1, h2⟩) hby.2
            have hr := hst j _ hby (hg.done j oj d hoj hl' hny hd)
            have hne : ops[i].dst ≠ some d := fun e => hji (hdst i j _ _ d ho hoj e hd)
            have e : (a.put ops[i].dst v).tmps.getD d undef = a.tmps.getD d undef := by
              unfold Act.put
              split
              · rename_i d' hd'
                have : d' ≠ d := fun e => hne (by rw [hd', e])
                simp [Array.getD_eq_getD_getElem?, this]
              · rfl
            rw [e]; exact hr
      · intro e he oj d hoj hd hdata
        refine hg.done e.on oj d hoj (hpre e he (by rw [Region.binds, hdata])) (.inr ⟨i, ?_, hfi⟩) hd
        unfold users
        simp only [List.mem_filter, List.mem_range]
        refine ⟨hlt, ?_⟩
        rw [ho]
        simp only [Option.map_some, Option.getD_some, Array.any_eq_true]
        obtain ⟨k, hk, rfl⟩ := Array.getElem_of_mem he
        exact ⟨k, hk, by simp [hdata]⟩
  refine wp_region_any hm (key ops.size _ a0 w0.drew (by simp) ?_ (Nat.le_refl _) ⟨(by have hD : (fun u => (Array.replicate ops.size false).getD u false = true) = (fun _ => False) := (by funext u; apply propext; by_cases hu : u < ops.size <;> simp [Array.getD_eq_getD_getElem?, hu]); rw [hD]; exact hJ), rfl, rfl, fun u o hl => ?_, fun _ _ => rfl, fun i o d ho hl _ hd => ?_⟩)
  · exact Nat.le_trans (List.length_filter_le _ _) (by simp)
  · exfalso
    by_cases hu : u < ops.size <;> simp [Array.getD_eq_getD_getElem?, hu] at hl
  · exfalso
    by_cases hu : i < ops.size <;> simp [Array.getD_eq_getD_getElem?, hu] at hl
end
theorem wp_region_typed3_lit {P : Program} {l : List Oper} {Q : Exit → Act → World → Prop} {id : Nat} {a0 : Act} {w0 : World} (hm : P.follows .mixedOrders = true) (J : (Nat → Prop) → World → Prop) (R : Nat → World → Value → Prop)
    (hok : plainRegion l a0.tmps.size = true) (hJ : J (fun _ => False) w0.drew)
    (hstep : AllFrom (fun i o => StepsTo3 P l.toArray J R a0 Q i o) 0 l)
    (hfin : ∀ a w, Going3 l.toArray J R a0 (Array.replicate l.length true) a w → Q .normal a w) :
    (Code.region id l.toArray true).wp P Q a0 w0 := by
  unfold plainRegion at hok
  simp only [Bool.and_eq_true, decide_eq_true_eq] at hok
  obtain ⟨⟨⟨h1, h2⟩, h3⟩, h4⟩ := hok
  have get : ∀ (i : Nat) (o : Oper), l.toArray[i]? = some o → l[i]? = some o := fun i o h => by simpa using h
  refine wp_region_typed3 hm J R ?_ ?_ ?_ ?_ hJ ?_ (by simpa using hfin)
  · intro i o ho
    rw [List.all_eq_true] at h1
    have := h1 o (List.mem_of_getElem? (get i o ho))
    simpa using this
  · intro i o ho e he hbd
    rw [List.all_eq_true] at h2
    have := h2 (o, i) (by rw [List.mem_zipIdx_iff_getElem?]; exact get i o ho)
    simp only [Array.all_eq_true] at this
    obtain ⟨k, hk, rfl⟩ := Array.getElem_of_mem he
    have := this k hk
    rw [hbd] at this
    simpa using this
  · intro i j oi oj d hi hj di dj
    exact nodup_dst l h3 i j oi oj d (get i oi hi) (get j oj hj) di dj
  · intro i o d ho hd
    rw [List.all_eq_true] at h4
    have := h4 o (List.mem_of_getElem? (get i o ho))
    rw [hd] at this
    simpa using this
  · intro i o ho
    have := AllFrom.get l 0 hstep i o (get i o ho)
    rwa [Nat.zero_add] at this

end Go.Proofs.Ytjafekjcncmjjaa

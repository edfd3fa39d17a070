/-
  A region that draws its order, where what each operation gives does not hang on the order: it is walked in the order of the text, guards and all.
-/
import Derived.Test.YtdbedkjnoppkmaaRegion
namespace Go.Proofs.Ytdbedkjnoppkmaa
open Go.RowKit

section
variable {P : Program} {Q : Exit → Act → World → Prop}

/-- No panic, and otherwise 'Q'. -/
def NoPanic (Q : Exit → Act → World → Prop) : Exit → Act → World → Prop := fun x a w => match x with
  | .panic _ => False
  | x => Q x a w
/-- What is asked of the operations, in the order of the text, each in whatever world 'J' allows. -/
def SeqV (P : Program) (ops : Array Oper) (J : World → Prop) (Q : Exit → Act → World → Prop) : List Oper → Act → Prop
  | [], a => ∀ w, J w → Q .normal a w
  | o :: l, a => (Region.wanted o (yielded ops a.tmps) = true ∧ ∃ v, (∀ w, J w → o.wp P a w (fun a' w' => a' = a.put o.dst v ∧ J w') (NoPanic Q)) ∧ SeqV P ops J Q l (a.put o.dst v)) ∨
      (Region.wanted o (yielded ops a.tmps) = false ∧ SeqV P ops J Q l (a.put o.dst undef))
theorem SeqV.step {ops : Array Oper} {J : World → Prop} {o : Oper} {l : List Oper} {a : Act} (v : Value) (hw : Region.wanted o (yielded ops a.tmps) = true)
    (h1 : ∀ w, J w → o.wp P a w (fun a' w' => a' = a.put o.dst v ∧ J w') (NoPanic Q)) (h2 : SeqV P ops J Q l (a.put o.dst v)) : SeqV P ops J Q (o :: l) a := .inl ⟨hw, v, h1, h2⟩
theorem SeqV.skip {ops : Array Oper} {J : World → Prop} {o : Oper} {l : List Oper} {a : Act} (hw : Region.wanted o (yielded ops a.tmps) = false)
    (h2 : SeqV P ops J Q l (a.put o.dst undef)) : SeqV P ops J Q (o :: l) a := .inr ⟨hw, h2⟩
/-- The state behind these operations, in the order of the text. -/
def putAll (a : Act) : List Oper → List Value → Act
  | o :: l, v :: vs => putAll (a.put o.dst v) l vs
  | _, _ => a
theorem put_size (a : Act) (d : Option Tmp) (v : Value) : (a.put d v).tmps.size = a.tmps.size := by unfold Act.put; split <;> simp
theorem put_defers' (a : Act) (d : Option Tmp) (v : Value) : (a.put d v).defers = a.defers := by unfold Act.put; split <;> rfl
theorem put_ne (a : Act) {d : Option Tmp} (v : Value) {s : Nat} (h : d ≠ some s) : (a.put d v).tmps.getD s undef = a.tmps.getD s undef := by
  unfold Act.put
  split
  · rename_i d'
    have hne : d' ≠ s := fun e => h (by rw [e])
    simp [Array.getD_eq_getD_getElem?, hne]
  · rfl
theorem put_eq (a : Act) (v : Value) {s : Nat} (h : s < a.tmps.size) : (a.put (some s) v).tmps.getD s undef = v := by
  simp [Act.put, Array.getD_eq_getD_getElem?, h]
theorem putAll_size : ∀ (l : List Oper) (vs : List Value) (a : Act), (putAll a l vs).tmps.size = a.tmps.size
  | [], _, _ => rfl
  | _ :: _, [], _ => rfl
  | o :: l, v :: vs, a => by rw [putAll, putAll_size l vs, put_size]
theorem putAll_defers : ∀ (l : List Oper) (vs : List Value) (a : Act), (putAll a l vs).defers = a.defers
  | [], _, _ => rfl
  | _ :: _, [], _ => rfl
  | o :: l, v :: vs, a => by rw [putAll, putAll_defers l vs, put_defers']
theorem putAll_other : ∀ (l : List Oper) (vs : List Value) (a : Act) (s : Nat), (∀ (i : Nat) (o : Oper), l[i]? = some o → o.dst ≠ some s) → (putAll a l vs).tmps.getD s undef = a.tmps.getD s undef
  | [], _, _, _, _ => rfl
  | _ :: _, [], _, _, _ => rfl
  | o :: l, v :: vs, a, s, h => by
    rw [putAll, putAll_other l vs _ s (fun i o' ho => h (i + 1) o' (by simpa using ho)), put_ne a v (h 0 o rfl)]
theorem putAll_at : ∀ (l : List Oper) (vs : List Value) (a : Act) (s j : Nat) (o : Oper) (v : Value), l[j]? = some o → o.dst = some s → vs[j]? = some v → s < a.tmps.size → (∀ (i : Nat) (o : Oper), l[i]? = some o → o.dst = some s → i = j) →
    (putAll a l vs).tmps.getD s undef = v
  | [], _, _, _, _, _, _, h, _, _, _, _ => by simp at h
  | _ :: _, [], _, _, _, _, _, _, _, h, _, _ => by simp at h
  | x :: l, u :: vs, a, s, 0, o, v, hl, ho, hv, hs, hu => by
    simp at hl hv
    subst hl; subst hv
    rw [putAll, putAll_other l vs _ s (fun i o' hi hd => by have := hu (i + 1) o' (by simpa using hi) hd; omega), ho, put_eq a _ hs]
  | x :: l, u :: vs, a, s, j + 1, o, v, hl, ho, hv, hs, hu => by
    rw [putAll]
    exact putAll_at l vs _ s j o v (by simpa using hl) ho (by simpa using hv) (by rw [put_size]; exact hs) (fun i o' hi hd => by have := hu (i + 1) o' (by simpa using hi) hd; omega)
/-- The region's form, asked by one closed fact: nothing is chosen among channels, edges lead back, every slot is written once and there is such a slot, and what an operation looks at and another one writes it waits for. -/
def fitsV (ops : List Oper) (n : Nat) : Bool :=
  ops.all (fun o => match o.op with | .select .. => false | _ => true) && (ops.zipIdx.all fun x => x.1.after.all fun e => !Region.binds .any e || decide (e.on < x.2)) &&
  decide ((ops.filterMap (·.dst)).Nodup) && (ops.all fun o => match o.dst with | some d => decide (d < n) | none => true) &&
  ops.zipIdx.all fun x => (x.1.looksAt ops.toArray).all fun s => ops.zipIdx.all fun y => y.1.dst != some s || (decide (y.2 < x.2) && x.1.after.any fun e => e.on == y.2 && Region.binds .any e)
theorem SeqV.vals {ops : Array Oper} {J : World → Prop} : ∀ (l : List Oper) (a : Act), SeqV P ops J Q l a → ∃ vs : List Value, vs.length = l.length ∧ (∀ w, J w → Q .normal (putAll a l vs) w) ∧
    ∀ (i : Nat) (o : Oper), l[i]? = some o → ∃ v, vs[i]? = some v ∧ ((Region.wanted o (yielded ops (putAll a (l.take i) (vs.take i)).tmps) = true ∧ ∀ w, J w → o.wp P (putAll a (l.take i) (vs.take i)) w (fun a' w' => a' = (putAll a (l.take i) (vs.take i)).put o.dst v ∧ J w') (NoPanic Q)) ∨
      (Region.wanted o (yielded ops (putAll a (l.take i) (vs.take i)).tmps) = false ∧ v = undef))
  | [], a, h => ⟨[], rfl, h, fun i o hi => by simp at hi⟩
  | x :: l, a, h => by
    rcases h with ⟨hw, v, h1, h2⟩ | ⟨hw, h2⟩
    · obtain ⟨vs, hl, hq, hs⟩ := SeqV.vals l _ h2
      refine ⟨v :: vs, by simp [hl], hq, fun i o hi => ?_⟩
      cases i with
      | zero => simp at hi; subst hi; exact ⟨v, rfl, .inl ⟨hw, h1⟩⟩
      | succ i => obtain ⟨u, hu, hr⟩ := hs i o (by simpa using hi); exact ⟨u, by simpa using hu, by simpa [putAll] using hr⟩
    · obtain ⟨vs, hl, hq, hs⟩ := SeqV.vals l _ h2
      refine ⟨undef :: vs, by simp [hl], hq, fun i o hi => ?_⟩
      cases i with
      | zero => simp at hi; subst hi; exact ⟨undef, rfl, .inr ⟨hw, rfl⟩⟩
      | succ i => obtain ⟨u, hu, hr⟩ := hs i o (by simpa using hi); exact ⟨u, by simpa using hu, by simpa [putAll] using hr⟩
theorem put_same {a b : Act} {d : Option Tmp} {u v : Value} (h : a.put d u = a.put d v) (hs : b.tmps.size = a.tmps.size) : b.put d u = b.put d v := by
  cases d with
  | none => rfl
  | some d =>
    by_cases hd : d < a.tmps.size
    · have := congrArg (fun x : Act => x.tmps.getD d undef) h
      simp only [put_eq a _ hd] at this
      rw [this]
    · have hb : ¬ d < b.tmps.size := by rw [hs]; exact hd
      simp only [Act.put, Array.setIfInBounds, hb, dite_false]
/-- An operation that looks at the same gives the same. -/
theorem wp_other {o : Oper} {a b : Act} {w : World} {J : World → Prop} {v : Value} (he : execOp a.eval o = execOp b.eval o) (hs : b.tmps.size = a.tmps.size)
    (h : o.wp P a w (fun a' w' => a' = a.put o.dst v ∧ J w') (NoPanic Q)) : o.wp P b w (fun a' w' => a' = b.put o.dst v ∧ J w') Q := by
  unfold Oper.wp at *
  rw [he] at h
  generalize (execOp b.eval o).run P w = r at *
  cases r with
  | ok n w' =>
    cases n <;> simp only [Oper.upon] at h ⊢
    case value u => exact ⟨put_same h.1 hs, h.2⟩
    case skip => exact ⟨put_same h.1 hs, h.2⟩
    case defer d =>
      exfalso
      have := congrArg Act.defers h.1
      rw [put_defers', put_defers'] at this
      have := congrArg List.length this
      simp at this
    case enter f args =>
      refine Calls.mono h fun e w'' he => ?_
      cases e with
      | returned u => exact ⟨put_same he.1 hs, he.2⟩
      | panicked c => exact he.elim
      | outgrown => obtain ⟨a1, w1, h1⟩ := he; exact ⟨a1, w1, h1⟩
    case row row args => exact Rows.mono h fun u w'' he => ⟨put_same he.1 hs, he.2⟩
  | halt x w' =>
    cases x <;> simp only [Oper.upon] at h ⊢
    case panic u => exact h.elim
/-- Between two operations: the world is as 'J' says, and each slot is told. -/
structure GoingV (l : List Oper) (vs : List Value) (J : World → Prop) (a0 : Act) (listed : Array Bool) (a : Act) (w : World) : Prop where
  world : J w
  defers : a.defers = a0.defers
  size : a.tmps.size = a0.tmps.size
  others : ∀ s, (∀ (i : Nat) (o : Oper), l[i]? = some o → o.dst ≠ some s) → a.tmps.getD s undef = a0.tmps.getD s undef
  done : ∀ (i : Nat) (o : Oper) (d : Nat) (v : Value), l[i]? = some o → listed.getD i false = true → o.dst = some d → vs[i]? = some v → a.tmps.getD d undef = v
theorem wp_region_seq {l : List Oper} {id : Nat} {a0 : Act} {w0 : World} (hm : P.follows .mixedOrders = true) (J : World → Prop) (hok : fitsV l a0.tmps.size = true) (hJ : J w0.drew)
    (h : SeqV P l.toArray J Q l a0) : (Code.region id l.toArray true).wp P Q a0 w0 := by
  unfold fitsV at hok
  simp only [Bool.and_eq_true, decide_eq_true_eq] at hok
  obtain ⟨⟨⟨⟨h1, h2⟩, h3⟩, h4⟩, h5⟩ := hok
  have hsel : ∀ (i : Nat) (o : Oper), l[i]? = some o → ∀ cs b, o.op ≠ .select cs b := by
    intro i o ho cs b hb
    rw [List.all_eq_true] at h1
    have := h1 o (List.mem_of_getElem? ho)
    rw [hb] at this
    simp at this
  have hback : ∀ (i : Nat) (o : Oper), l[i]? = some o → ∀ e ∈ o.after, Region.binds .any e = true → e.on < i := by
    intro i o ho e he hbd
    rw [List.all_eq_true] at h2
    have := h2 (o, i) (by rw [List.mem_zipIdx_iff_getElem?]; exact ho)
    simp only [Array.all_eq_true] at this
    obtain ⟨k, hk, rfl⟩ := Array.getElem_of_mem he
    have := this k hk
    rw [hbd] at this
    simpa using this
  have hdst : ∀ (i j : Nat) (oi oj : Oper) (d : Nat), l[i]? = some oi → l[j]? = some oj → oi.dst = some d → oj.dst = some d → i = j := nodup_dst l h3
  have hsz : ∀ (i : Nat) (o : Oper) (d : Nat), l[i]? = some o → o.dst = some d → d < a0.tmps.size := by
    intro i o d ho hd
    rw [List.all_eq_true] at h4
    have := h4 o (List.mem_of_getElem? ho)
    rw [hd] at this
    simpa using this
  have hlook : ∀ (i j : Nat) (oi oj : Oper) (s : Nat), l[i]? = some oi → s ∈ oi.looksAt l.toArray → l[j]? = some oj → oj.dst = some s → j < i ∧ ∃ e ∈ oi.after, e.on = j ∧ Region.binds .any e = true := by
    intro i j oi oj s hi hs hj hd
    rw [List.all_eq_true] at h5
    have := h5 (oi, i) (by rw [List.mem_zipIdx_iff_getElem?]; exact hi)
    rw [List.all_eq_true] at this
    have := this s hs
    rw [List.all_eq_true] at this
    have := this (oj, j) (by rw [List.mem_zipIdx_iff_getElem?]; exact hj)
    simp only [hd, bne_self_eq_false, Bool.false_or, Bool.and_eq_true, decide_eq_true_eq, Array.any_eq_true] at this
    obtain ⟨hlt, k, hk, he⟩ := this
    exact ⟨hlt, _, Array.getElem_mem hk, by simpa using he.1, he.2⟩
  obtain ⟨vs, hvl, hq, hstep⟩ := h.vals
  have hN : l.toArray.size = l.length := by simp
  have get : ∀ (i : Nat) (o : Oper), l.toArray[i]? = some o → l[i]? = some o := fun i o h => by simpa using h
  have key : ∀ (fuel : Nat) (listed : Array Bool) (a : Act) (w : World), listed.size = l.toArray.size → ((List.range l.toArray.size).filter fun j => !listed.getD j true).length ≤ fuel → fuel ≤ l.toArray.size → GoingV l vs J a0 listed a w →
      wpAny P .any l.toArray Q fuel listed a w := by
    have last : ∀ (listed : Array Bool) (a : Act) (w : World), listed.size = l.toArray.size → Region.ready .any l.toArray listed = [] → GoingV l vs J a0 listed a w → Q .normal a w := by
      intro listed a w hs hr hg
      have all : ∀ i, i < l.length → listed.getD i false = true := by
        intro i
        induction i using Nat.strongRecOn with
        | ind i ih =>
          intro hi
          rcases hb : listed.getD i false with _ | _
          · exfalso
            have hmem : i ∈ Region.ready .any l.toArray listed := by
              unfold Region.ready
              simp only [List.mem_filter, List.mem_range, Bool.and_eq_true]
              refine ⟨by rw [hN]; exact hi, ?_, ?_⟩
              · have : listed.getD i true = listed.getD i false := by
                  simp [Array.getD_eq_getD_getElem?, Array.getElem?_eq_getElem (show i < listed.size by omega)]
                rw [this, hb]; rfl
              · have hlo : l.toArray[i]? = some l[i] := by simp [hi]
                rw [hlo]
                simp only [Option.map_some, Option.getD_some, Array.all_eq_true]
                intro j hj
                rcases hbd : Region.binds .any (l[i].after[j]) with _ | _
                · simp
                · have hlt := hback i l[i] (List.getElem?_eq_getElem hi) (l[i].after[j]) (Array.getElem_mem hj) hbd
                  have := ih _ hlt (by omega)
                  simp [this]
            rw [hr] at hmem; simp at hmem
          · rfl
      have e : a = putAll a0 l vs := by
        have et : a.tmps = (putAll a0 l vs).tmps := by
          apply Array.ext
          · rw [hg.size, putAll_size]
          · intro s hs1 hs2
            have : a.tmps.getD s undef = (putAll a0 l vs).tmps.getD s undef := by
              by_cases hx : ∃ (i : Nat) (o : Oper), l[i]? = some o ∧ o.dst = some s
              · obtain ⟨i, o, ho, hd⟩ := hx
                have hil : i < l.length := by
                  rcases Nat.lt_or_ge i l.length with h | h
                  · exact h
                  · rw [List.getElem?_eq_none h] at ho; cases ho
                have hv : vs[i]? = some vs[i] := List.getElem?_eq_getElem (by omega)
                rw [hg.done i o s _ ho (all i hil) hd hv, putAll_at l vs a0 s i o _ ho hd hv (hsz i o s ho hd) (fun k o' hk hd' => hdst k i o' o s hk ho hd' hd)]
              · have hx' : ∀ (i : Nat) (o : Oper), l[i]? = some o → o.dst ≠ some s := fun i o ho hd => hx ⟨i, o, ho, hd⟩
                rw [hg.others s hx', putAll_other l vs a0 s hx']
            simpa [Array.getD_eq_getD_getElem?, hs1, hs2] using this
        have ed : a.defers = (putAll a0 l vs).defers := by rw [hg.defers, putAll_defers]
        cases a; cases hp : putAll a0 l vs
        rw [hp] at et ed
        simp only at et ed
        rw [et, ed]
      rw [e]
      exact hq w hg.world
    intro fuel
    induction fuel with
    | zero =>
      intro listed a w hs hn hfu hg
      have hr : Region.ready .any l.toArray listed = [] := by
        have h0 : ((List.range l.toArray.size).filter fun j => !listed.getD j true) = [] := List.eq_nil_of_length_eq_zero (by omega)
        unfold Region.ready
        rw [List.filter_eq_nil_iff] at h0 ⊢
        intro j hj hc
        exact h0 j hj (by simp only [Bool.and_eq_true] at hc; exact hc.1)
      exact ⟨hr, last listed a w hs hr hg⟩
    | succ fuel ih =>
      intro listed a w hs hn hfu hg
      refine ⟨fun hr => last listed a w hs hr hg, fun i hi => ?_⟩
      unfold Region.ready at hi
      simp only [List.mem_filter, List.mem_range, Bool.and_eq_true] at hi
      obtain ⟨hlt, hu, haf⟩ := hi
      have hlt' : i < l.length := by rw [← hN]; exact hlt
      have ho : l.toArray[i]? = some l[i] := by simp [hlt']
      have hol : l[i]? = some l[i] := List.getElem?_eq_getElem hlt'
      have hu' : listed.getD i true = false := by simpa using hu
      have hpre : ∀ e ∈ l[i].after, Region.binds .any e = true → listed.getD e.on false = true := by
        intro e he hbind
        rw [ho] at haf
        simp only [Option.map_some, Option.getD_some, Array.all_eq_true] at haf
        obtain ⟨k, hk, rfl⟩ := Array.getElem_of_mem he
        have := haf k hk
        simpa [hbind] using this
      obtain ⟨v, hv, hst⟩ := hstep i l[i] hol
      obtain ⟨A, hA⟩ : ∃ A, putAll a0 (l.take i) (vs.take i) = A := ⟨_, rfl⟩
      rw [hA] at hst
      have hAs : A.tmps.size = a0.tmps.size := by rw [← hA, putAll_size]
      -- what the operation looks at is the same as in the text's order
      have look : ∀ s ∈ l[i].looksAt l.toArray, A.tmps.getD s undef = a.tmps.getD s undef := by
        intro s hsl
        by_cases hx : ∃ (j : Nat) (o : Oper), l[j]? = some o ∧ o.dst = some s
        · obtain ⟨j, o, hj, hd⟩ := hx
          obtain ⟨hji, e, he, hej, heb⟩ := hlook i j l[i] o s hol hsl hj hd
          have hvj : vs[j]? = some (vs[j]'(by omega)) := List.getElem?_eq_getElem (by omega)
          have hls := hpre e he heb
          rw [hej] at hls
          rw [hg.done j o s _ hj hls hd hvj, ← hA]
          refine putAll_at _ _ a0 s j o _ (by rw [List.getElem?_take_of_lt hji]; exact hj) hd (by rw [List.getElem?_take_of_lt hji]; exact hvj) (hsz j o s hj hd) (fun k o' hk hd' => ?_)
          rw [List.getElem?_take] at hk
          split at hk
          · exact hdst k j o' o s hk hj hd' hd
          · cases hk
        · have hx' : ∀ (i : Nat) (o : Oper), l[i]? = some o → o.dst ≠ some s := fun i o ho hd => hx ⟨i, o, ho, hd⟩
          rw [hg.others s hx', ← hA, putAll_other _ _ a0 s (fun k o' hk => by
            rw [List.getElem?_take] at hk
            split at hk
            · exact hx' k o' hk
            · cases hk)]
      have hexec : execOp A.eval l[i] = execOp a.eval l[i] := by
        refine execOp_congr l[i] (hsel i l[i] hol) fun x hx => ?_
        cases x with
        | tmp t =>
          refine look t ?_
          unfold Oper.looksAt
          exact List.mem_append_left _ (List.mem_filterMap.2 ⟨.tmp t, by simpa using hx, rfl⟩)
        | _ => rfl
      have hwant : Region.wanted l[i] (yielded l.toArray A.tmps) = Region.wanted l[i] (yielded l.toArray a.tmps) := by
        unfold Region.wanted
        cases hgd : l[i].guard with
        | none => rfl
        | some gw =>
          obtain ⟨g, want⟩ := gw
          have hy : yielded l.toArray A.tmps g = yielded l.toArray a.tmps g := by
            unfold yielded
            cases ht : (l.toArray[g]?).bind (·.dst) with
            | none => rfl
            | some t =>
              have := look t (by unfold Oper.looksAt; refine List.mem_append_right _ ?_; rw [hgd]; show t ∈ ((l.toArray[g]?).bind (·.dst)).toList; rw [ht]; simp)
              by_cases hta : t < a.tmps.size
              · have htA : t < A.tmps.size := by rw [hAs, ← hg.size]; exact hta
                simp only [Array.getD_eq_getD_getElem?, Array.getElem?_eq_getElem hta, Array.getElem?_eq_getElem htA, Option.getD_some] at this
                simp [Array.getElem?_eq_getElem hta, Array.getElem?_eq_getElem htA, this]
              · have htA : ¬ t < A.tmps.size := by rw [hAs, ← hg.size]; exact hta
                simp [Array.getElem?_eq_none (Nat.not_lt.1 hta), Array.getElem?_eq_none (Nat.not_lt.1 htA)]
          simp only [hy]
      -- what stands behind it
      have next : ∀ w', J w' → GoingV l vs J a0 (listed.setIfInBounds i true) (a.put l[i].dst v) w' := by
        intro w' hw'
        refine ⟨hw', by rw [put_defers', hg.defers], by rw [put_size, hg.size], fun s hs' => ?_, fun j oj d u hj hlj hd hvj => ?_⟩
        · rw [put_ne a v (hs' i l[i] hol), hg.others s hs']
        · by_cases hji : i = j
          · subst hji
            rw [hol] at hj; injection hj with hj
            rw [← hj] at hd
            rw [hv] at hvj; injection hvj with hvj
            rw [hd, ← hvj]
            exact put_eq a v (by rw [hg.size]; exact hsz i _ d hol hd)
          · have hl' : listed.getD j false = true := by
              simpa [Array.getD_eq_getD_getElem?, Array.getElem?_setIfInBounds, hji] using hlj
            rw [put_ne a v (fun e => hji (hdst i j _ _ d hol hj e hd))]
            exact hg.done j oj d u hj hl' hd hvj
      have go : ∀ w', J w' → wpAny P .any l.toArray Q fuel (listed.setIfInBounds i true) (a.put l[i].dst v) w' := fun w' hw' =>
        ih _ _ _ (by simp [hs]) (open_less hlt hs hu' hn) (by omega) (next w' hw')
      unfold wpOp
      rw [ho]
      simp only
      rcases hst with ⟨hw, hstw⟩ | ⟨hw, hvu⟩
      · rw [hwant] at hw
        simp only [hw, if_true]
        refine .inl (Oper.wp_mono ?_ (wp_other hexec (by rw [hg.size, hAs]) (hstw w hg.world)))
        rintro a' w' ⟨rfl, hw'⟩
        exact go w' hw'
      · rw [hwant] at hw
        simp only [hw, Bool.false_eq_true, if_false]
        rw [← hvu]
        exact go w hg.world
  refine wp_region_any hm (key l.toArray.size _ a0 w0.drew (by simp) ?_ (Nat.le_refl _) ⟨hJ, rfl, rfl, fun _ _ => rfl, fun i o d v ho hl _ _ => ?_⟩)
  · exact Nat.le_trans (List.length_filter_le _ _) (by simp)
  · exfalso
    by_cases hu : i < l.length <;> simp [Array.getD_eq_getD_getElem?, hu] at hl
end

end Go.Proofs.Ytdbedkjnoppkmaa

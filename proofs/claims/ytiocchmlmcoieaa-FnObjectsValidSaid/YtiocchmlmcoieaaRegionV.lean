/-
  A region that draws its order, where what each operation gives does not hang on the order: it is walked in the order of the text, guards and all. A region that draws its order, where some operations stand in a chain and write or make memory, and the others read what does not change until it is taken. A region that draws its order, where what the world is asked to be hangs on the operations that are done, and on what they gave.
-/
import Derived.Test.YtiocchmlmcoieaaRegion
/- A region that draws its order, where what each operation gives does not hang on the order: it is walked in the order of the text, guards and all. -/
namespace Go.Proofs.Ytiocchmlmcoieaa
open Go.RowKit

section
variable {P : Program} {Q : Exit → Act → World → Prop}

/-- No panic, and otherwise 'Q'. -/
def NoPanic (Q : Exit → Act → World → Prop) : Exit → Act → World → Prop := fun x a w => match x with
  | .panic _ => False
  | x => Q x a w
/-- What is asked of the operations, in the order of the text, each in whatever world 'J' allows. -/
def SeqV (P : Program) (ops : Array Oper) (J : World → Prop) (Q : Exit → Act → World → Prop) : List Oper → Act → Prop
  | [], a => ∀ w, J w → Q .normal a w
  | o :: l, a => (Region.wanted o (yielded ops a.tmps) = true ∧ ∃ v, (∀ w, J w → o.wp P a w (fun a' w' => a' = a.put o.dst v ∧ J w') (NoPanic Q)) ∧ SeqV P ops J Q l (a.put o.dst v)) ∨
      (Region.wanted o (yielded ops a.tmps) = false ∧ SeqV P ops J Q l (a.put o.dst undef))
theorem SeqV.step {ops : Array Oper} {J : World → Prop} {o : Oper} {l : List Oper} {a : Act} (v : Value) (hw : Region.wanted o (yielded ops a.tmps) = true)
    (h1 : ∀ w, J w → o.wp P a w (fun a' w' => a' = a.put o.dst v ∧ J w') (NoPanic Q)) (h2 : SeqV P ops J Q l (a.put o.dst v)) : SeqV P ops J Q (o :: l) a := .inl ⟨hw, v, h1, h2⟩
theorem SeqV.skip {ops : Array Oper} {J : World → Prop} {o : Oper} {l : List Oper} {a : Act} (hw : Region.wanted o (yielded ops a.tmps) = false)
    (h2 : SeqV P ops J Q l (a.put o.dst undef)) : SeqV P ops J Q (o :: l) a := .inr ⟨hw, h2⟩
/-- The state behind these operations, in the order of the text. -/
def putAll (a : Act) : List Oper → List Value → Act
  | o :: l, v :: vs => putAll (a.put o.dst v) l vs
  | _, _ => a
theorem put_size (a : Act) (d : Option Tmp) (v : Value) : (a.put d v).tmps.size = a.tmps.size := by unfold Act.put; split <;> simp
theorem put_defers' (a : Act) (d : Option Tmp) (v : Value) : (a.put d v).defers = a.defers := by unfold Act.put; split <;> rfl
theorem put_ne (a : Act) {d : Option Tmp} (v : Value) {s : Nat} (h : d ≠ some s) : (a.put d v).tmps.getD s undef = a.tmps.getD s undef := by
  unfold Act.put
  split
  · rename_i d'
    have hne : d' ≠ s := fun e => h (by rw [e])
    simp [Array.getD_eq_getD_getElem?, hne]
  · rfl
theorem put_eq (a : Act) (v : Value) {s : Nat} (h : s < a.tmps.size) : (a.put (some s) v).tmps.getD s undef = v := by
  simp [Act.put, Array.getD_eq_getD_getElem?, h]
theorem putAll_size : ∀ (l : List Oper) (vs : List Value) (a : Act), (putAll a l vs).tmps.size = a.tmps.size
  | [], _, _ => rfl
  | _ :: _, [], _ => rfl
  | o :: l, v :: vs, a => by rw [putAll, putAll_size l vs, put_size]
theorem putAll_defers : ∀ (l : List Oper) (vs : List Value) (a : Act), (putAll a l vs).defers = a.defers
  | [], _, _ => rfl
  | _ :: _, [], _ => rfl
  | o :: l, v :: vs, a => by rw [putAll, putAll_defers l vs, put_defers']
theorem putAll_other : ∀ (l : List Oper) (vs : List Value) (a : Act) (s : Nat), (∀ (i : Nat) (o : Oper), l[i]? = some o → o.dst ≠ some s) → (putAll a l vs).tmps.getD s undef = a.tmps.getD s undef
  | [], _, _, _, _ => rfl
  | _ :: _, [], _, _, _ => rfl
  | o :: l, v :: vs, a, s, h => by
    rw [putAll, putAll_other l vs _ s (fun i o' ho => h (i + 1) o' (by simpa using ho)), put_ne a v (h 0 o rfl)]
theorem putAll_at : ∀ (l : List Oper) (vs : List Value) (a : Act) (s j : Nat) (o : Oper) (v : Value), l[j]? = some o → o.dst = some s → vs[j]? = some v → s < a.tmps.size → (∀ (i : Nat) (o : Oper), l[i]? = some o → o.dst = some s → i = j) →
    (putAll a l vs).tmps.getD s undef = v
  | [], _, _, _, _, _, _, h, _, _, _, _ => by simp at h
  | _ :: _, [], _, _, _, _, _, _, _, h, _, _ => by simp at h
  | x :: l, u :: vs, a, s, 0, o, v, hl, ho, hv, hs, hu => by
    simp at hl hv
    subst hl; subst hv
    rw [putAll, putAll_other l vs _ s (fun i o' hi hd => by have := hu (i + 1) o' (by simpa using hi) hd; omega), ho, put_eq a _ hs]
  | x :: l, u :: vs, a, s, j + 1, o, v, hl, ho, hv, hs, hu => by
    rw [putAll]
    exact putAll_at l vs _ s j o v (by simpa using hl) ho (by simpa using hv) (by rw [put_size]; exact hs) (fun i o' hi hd => by have := hu (i + 1) o' (by simpa using hi) hd; omega)
/-- The region's form, asked by one closed fact: nothing is chosen among channels, edges lead back, every slot is written once and there is such a slot, and what an operation looks at and another one writes it waits for. -/
def fitsV (ops : List Oper) (n : Nat) : Bool :=
  ops.all (fun o => match o.op with | .select .. => false | _ => true) && (ops.zipIdx.all fun x => x.1.after.all fun e => !Region.binds .any e || decide (e.on < x.2)) &&
  decide ((ops.filterMap (·.dst)).Nodup) && (ops.all fun o => match o.dst with | some d => decide (d < n) | none => true) &&
  ops.zipIdx.all fun x => (x.1.looksAt ops.toArray).all fun s => ops.zipIdx.all fun y => y.1.dst != some s || (decide (y.2 < x.2) && x.1.after.any fun e => e.on == y.2 && Region.binds .any e)
theorem SeqV.vals {ops : Array Oper} {J : World → Prop} : ∀ (l : List Oper) (a : Act), SeqV P ops J Q l a → ∃ vs : List Value, vs.length = l.length ∧ (∀ w, J w → Q .normal (putAll a l vs) w) ∧
    ∀ (i : Nat) (o : Oper), l[i]? = some o → ∃ v, vs[i]? = some v ∧ ((Region.wanted o (yielded ops (putAll a (l.take i) (vs.take i)).tmps) = true ∧ ∀ w, J w → o.wp P (putAll a (l.take i) (vs.take i)) w (fun a' w' => a' = (putAll a (l.take i) (vs.take i)).put o.dst v ∧ J w') (NoPanic Q)) ∨
      (Region.wanted o (yielded ops (putAll a (l.take i) (vs.take i)).tmps) = false ∧ v = undef))
  | [], a, h => ⟨[], rfl, h, fun i o hi => by simp at hi⟩
  | x :: l, a, h => by
    rcases h with ⟨hw, v, h1, h2⟩ | ⟨hw, h2⟩
    · obtain ⟨vs, hl, hq, hs⟩ := SeqV.vals l _ h2
      refine ⟨v :: vs, by simp [hl], hq, fun i o hi => ?_⟩
      cases i with
      | zero => simp at hi; subst hi; exact ⟨v, rfl, .inl ⟨hw, h1⟩⟩
      | succ i => obtain ⟨u, hu, hr⟩ := hs i o (by simpa using hi); exact ⟨u, by simpa using hu, by simpa [putAll] using hr⟩
    · obtain ⟨vs, hl, hq, hs⟩ := SeqV.vals l _ h2
      refine ⟨undef :: vs, by simp [hl], hq, fun i o hi => ?_⟩
      cases i with
      | zero => simp at hi; subst hi; exact ⟨undef, rfl, .inr ⟨hw, rfl⟩⟩
      | succ i => obtain ⟨u, hu, hr⟩ := hs i o (by simpa using hi); exact ⟨u, by simpa using hu, by simpa [putAll] using hr⟩
theorem put_same {a b : Act} {d : Option Tmp} {u v : Value} (h : a.put d u = a.put d v) (hs : b.tmps.size = a.tmps.size) : b.put d u = b.put d v := by
  cases d with
  | none => rfl
  | some d =>
    by_cases hd : d < a.tmps.size
    · have := congrArg (fun x : Act => x.tmps.getD d undef) h
      simp only [put_eq a _ hd] at this
      rw [this]
    · have hb : ¬ d < b.tmps.size := by rw [hs]; exact hd
      simp only [Act.put, Array.setIfInBounds, hb, dite_false]
/-- An operation that looks at the same gives the same. -/
theorem wp_other {o : Oper} {a b : Act} {w : World} {J : World → Prop} {v : Value} (he : execOp a.eval o = execOp b.eval o) (hs : b.tmps.size = a.tmps.size)
    (h : o.wp P a w (fun a' w' => a' = a.put o.dst v ∧ J w') (NoPanic Q)) : o.wp P b w (fun a' w' => a' = b.put o.dst v ∧ J w') Q := by
  unfold Oper.wp at *
  rw [he] at h
  generalize (execOp b.eval o).run P w = r at *
  cases r with
  | ok n w' =>
    cases n <;> simp only [Oper.upon] at h ⊢
    case value u => exact ⟨put_same h.1 hs, h.2⟩
    case skip => exact ⟨put_same h.1 hs, h.2⟩
    case defer d =>
      exfalso
      have := congrArg Act.defers h.1
      rw [put_defers', put_defers'] at this
      have := congrArg List.length this
      simp at this
    case enter f args =>
      refine Calls.mono h fun e w'' he => ?_
      cases e with
      | returned u => exact ⟨put_same he.1 hs, he.2⟩
      | panicked c => exact he.elim
      | outgrown => obtain ⟨a1, w1, h1⟩ := he; exact ⟨a1, w1, h1⟩
    case row row args => exact Rows.mono h fun u w'' he => ⟨put_same he.1 hs, he.2⟩
  | halt x w' =>
    cases x <;> simp only [Oper.upon] at h ⊢
    case panic u => exact h.elim
/-- Between two operations: the world is as 'J' says, and each slot is told. -/
structure GoingV (l : List Oper) (vs : List Value) (J : World → Prop) (a0 : Act) (listed : Array Bool) (a : Act) (w : World) : Prop where
  world : J w
  defers : a.defers = a0.defers
  size : a.tmps.size = a0.tmps.size
  others : ∀ s, (∀ (i : Nat) (o : Oper), l[i]? = some o → o.dst ≠ some s) → a.tmps.getD s undef = a0.tmps.getD s undef
  done : ∀ (i : Nat) (o : Oper) (d : Nat) (v : Value), l[i]? = some o → listed.getD i false = true → o.dst = some d → vs[i]? = some v → a.tmps.getD d undef = v
theorem wp_region_seq {l : List Oper} {id : Nat} {a0 : Act} {w0 : World} (hm : P.follows .mixedOrders = true) (J : World → Prop) (hok : fitsV l a0.tmps.size = true) (hJ : J w0.drew)
    (h : SeqV P l.toArray J Q l a0) : (Code.region id l.toArray true).wp P Q a0 w0 := by
  unfold fitsV at hok
  simp only [Bool.and_eq_true, decide_eq_true_eq] at hok
  obtain ⟨⟨⟨⟨h1, h2⟩, h3⟩, h4⟩, h5⟩ := hok
  have hsel : ∀ (i : Nat) (o : Oper), l[i]? = some o → ∀ cs b, o.op ≠ .select cs b := by
    intro i o ho cs b hb
    rw [List.all_eq_true] at h1
    have := h1 o (List.mem_of_getElem? ho)
    rw [hb] at this
    simp at this
  have hback : ∀ (i : Nat) (o : Oper), l[i]? = some o → ∀ e ∈ o.after, Region.binds .any e = true → e.on < i := by
    intro i o ho e he hbd
    rw [List.all_eq_true] at h2
    have := h2 (o, i) (by rw [List.mem_zipIdx_iff_getElem?]; exact ho)
    simp only [Array.all_eq_true] at this
    obtain ⟨k, hk, rfl⟩ := Array.getElem_of_mem he
    have := this k hk
    rw [hbd] at this
    simpa using this
  have hdst : ∀ (i j : Nat) (oi oj : Oper) (d : Nat), l[i]? = some oi → l[j]? = some oj → oi.dst = some d → oj.dst = some d → i = j := nodup_dst l h3
  have hsz : ∀ (i : Nat) (o : Oper) (d : Nat), l[i]? = some o → o.dst = some d → d < a0.tmps.size := by
    intro i o d ho hd
    rw [List.all_eq_true] at h4
    have := h4 o (List.mem_of_getElem? ho)
    rw [hd] at this
    simpa using this
  have hlook : ∀ (i j : Nat) (oi oj : Oper) (s : Nat), l[i]? = some oi → s ∈ oi.looksAt l.toArray → l[j]? = some oj → oj.dst = some s → j < i ∧ ∃ e ∈ oi.after, e.on = j ∧ Region.binds .any e = true := by
    intro i j oi oj s hi hs hj hd
    rw [List.all_eq_true] at h5
    have := h5 (oi, i) (by rw [List.mem_zipIdx_iff_getElem?]; exact hi)
    rw [List.all_eq_true] at this
    have := this s hs
    rw [List.all_eq_true] at this
    have := this (oj, j) (by rw [List.mem_zipIdx_iff_getElem?]; exact hj)
    simp only [hd, bne_self_eq_false, Bool.false_or, Bool.and_eq_true, decide_eq_true_eq, Array.any_eq_true] at this
    obtain ⟨hlt, k, hk, he⟩ := this
    exact ⟨hlt, _, Array.getElem_mem hk, by simpa using he.1, he.2⟩
  obtain ⟨vs, hvl, hq, hstep⟩ := h.vals
  have hN : l.toArray.size = l.length := by simp
  have get : ∀ (i : Nat) (o : Oper), l.toArray[i]? = some o → l[i]? = some o := fun i o h => by simpa using h
  have key : ∀ (fuel : Nat) (listed : Array Bool) (a : Act) (w : World), listed.size = l.toArray.size → ((List.range l.toArray.size).filter fun j => !listed.getD j true).length ≤ fuel → fuel ≤ l.toArray.size → GoingV l vs J a0 listed a w →
      wpAny P .any l.toArray Q fuel listed a w := by
    have last : ∀ (listed : Array Bool) (a : Act) (w : World), listed.size = l.toArray.size → Region.ready .any l.toArray listed = [] → GoingV l vs J a0 listed a w → Q .normal a w := by
      intro listed a w hs hr hg
      have all : ∀ i, i < l.length → listed.getD i false = true := by
        intro i
        induction i using Nat.strongRecOn with
        | ind i ih =>
          intro hi
          rcases hb : listed.getD i false with _ | _
          · exfalso
            have hmem : i ∈ Region.ready .any l.toArray listed := by
              unfold Region.ready
              simp only [List.mem_filter, List.mem_range, Bool.and_eq_true]
              refine ⟨by rw [hN]; exact hi, ?_, ?_⟩
              · have : listed.getD i true = listed.getD i false := by
                  simp [Array.getD_eq_getD_getElem?, Array.getElem?_eq_getElem (show i < listed.size by omega)]
                rw [this, hb]; rfl
              · have hlo : l.toArray[i]? = some l[i] := by simp [hi]
                rw [hlo]
                simp only [Option.map_some, Option.getD_some, Array.all_eq_true]
                intro j hj
                rcases hbd : Region.binds .any (l[i].after[j]) with _ | _
                · simp
                · have hlt := hback i l[i] (List.getElem?_eq_getElem hi) (l[i].after[j]) (Array.getElem_mem hj) hbd
                  have := ih _ hlt (by omega)
                  simp [this]
            rw [hr] at hmem; simp at hmem
          · rfl
      have e : a = putAll a0 l vs := by
        have et : a.tmps = (putAll a0 l vs).tmps := by
          apply Array.ext
          · rw [hg.size, putAll_size]
          · intro s hs1 hs2
            have : a.tmps.getD s undef = (putAll a0 l vs).tmps.getD s undef := by
              by_cases hx : ∃ (i : Nat) (o : Oper), l[i]? = some o ∧ o.dst = some s
              · obtain ⟨i, o, ho, hd⟩ := hx
                have hil : i < l.length := by
                  rcases Nat.lt_or_ge i l.length with h | h
                  · exact h
                  · rw [List.getElem?_eq_none h] at ho; cases ho
                have hv : vs[i]? = some vs[i] := List.getElem?_eq_getElem (by omega)
                rw [hg.done i o s _ ho (all i hil) hd hv, putAll_at l vs a0 s i o _ ho hd hv (hsz i o s ho hd) (fun k o' hk hd' => hdst k i o' o s hk ho hd' hd)]
              · have hx' : ∀ (i : Nat) (o : Oper), l[i]? = some o → o.dst ≠ some s := fun i o ho hd => hx ⟨i, o, ho, hd⟩
                rw [hg.others s hx', putAll_other l vs a0 s hx']
            simpa [Array.getD_eq_getD_getElem?, hs1, hs2] using this
        have ed : a.defers = (putAll a0 l vs).defers := by rw [hg.defers, putAll_defers]
        cases a; cases hp : putAll a0 l vs
        rw [hp] at et ed
        simp only at et ed
        rw [et, ed]
      rw [e]
      exact hq w hg.world
    intro fuel
    induction fuel with
    | zero =>
      intro listed a w hs hn hfu hg
      have hr : Region.ready .any l.toArray listed = [] := by
        have h0 : ((List.range l.toArray.size).filter fun j => !listed.getD j true) = [] := List.eq_nil_of_length_eq_zero (by omega)
        unfold Region.ready
        rw [List.filter_eq_nil_iff] at h0 ⊢
        intro j hj hc
        exact h0 j hj (by simp only [Bool.and_eq_true] at hc; exact hc.1)
      exact ⟨hr, last listed a w hs hr hg⟩
    | succ fuel ih =>
      intro listed a w hs hn hfu hg
      refine ⟨fun hr => last listed a w hs hr hg, fun i hi => ?_⟩
      unfold Region.ready at hi
      simp only [List.mem_filter, List.mem_range, Bool.and_eq_true] at hi
      obtain ⟨hlt, hu, haf⟩ := hi
      have hlt' : i < l.length := by rw [← hN]; exact hlt
      have ho : l.toArray[i]? = some l[i] := by simp [hlt']
      have hol : l[i]? = some l[i] := List.getElem?_eq_getElem hlt'
      have hu' : listed.getD i true = false := by simpa using hu
      have hpre : ∀ e ∈ l[i].after, Region.binds .any e = true → listed.getD e.on false = true := by
        intro e he hbind
        rw [ho] at haf
        simp only [Option.map_some, Option.getD_some, Array.all_eq_true] at haf
        obtain ⟨k, hk, rfl⟩ := Array.getElem_of_mem he
        have := haf k hk
        simpa [hbind] using this
      obtain ⟨v, hv, hst⟩ := hstep i l[i] hol
      obtain ⟨A, hA⟩ : ∃ A, putAll a0 (l.take i) (vs.take i) = A := ⟨_, rfl⟩
      rw [hA] at hst
      have hAs : A.tmps.size = a0.tmps.size := by rw [← hA, putAll_size]
      -- what the operation looks at is the same as in the text's order
      have look : ∀ s ∈ l[i].looksAt l.toArray, A.tmps.getD s undef = a.tmps.getD s undef := by
        intro s hsl
        by_cases hx : ∃ (j : Nat) (o : Oper), l[j]? = some o ∧ o.dst = some s
        · obtain ⟨j, o, hj, hd⟩ := hx
          obtain ⟨hji, e, he, hej, heb⟩ := hlook i j l[i] o s hol hsl hj hd
          have hvj : vs[j]? = some (vs[j]'(by omega)) := List.getElem?_eq_getElem (by omega)
          have hls := hpre e he heb
          rw [hej] at hls
          rw [hg.done j o s _ hj hls hd hvj, ← hA]
          refine putAll_at _ _ a0 s j o _ (by rw [List.getElem?_take_of_lt hji]; exact hj) hd (by rw [List.getElem?_take_of_lt hji]; exact hvj) (hsz j o s hj hd) (fun k o' hk hd' => ?_)
          rw [List.getElem?_take] at hk
          split at hk
          · exact hdst k j o' o s hk hj hd' hd
          · cases hk
        · have hx' : ∀ (i : Nat) (o : Oper), l[i]? = some o → o.dst ≠ some s := fun i o ho hd => hx ⟨i, o, ho, hd⟩
          rw [hg.others s hx', ← hA, putAll_other _ _ a0 s (fun k o' hk => by
            rw [List.getElem?_take] at hk
            split at hk
            · exact hx' k o' hk
            · cases hk)]
      have hexec : execOp A.eval l[i] = execOp a.eval l[i] := by
        refine execOp_congr l[i] (hsel i l[i] hol) fun x hx => ?_
        cases x with
        | tmp t =>
          refine look t ?_
          unfold Oper.looksAt
          exact List.mem_append_left _ (List.mem_filterMap.2 ⟨.tmp t, by simpa using hx, rfl⟩)
        | _ => rfl
      have hwant : Region.wanted l[i] (yielded l.toArray A.tmps) = Region.wanted l[i] (yielded l.toArray a.tmps) := by
        unfold Region.wanted
        cases hgd : l[i].guard with
        | none => rfl
        | some gw =>
          obtain ⟨g, want⟩ := gw
          have hy : yielded l.toArray A.tmps g = yielded l.toArray a.tmps g := by
            unfold yielded
            cases ht : (l.toArray[g]?).bind (·.dst) with
            | none => rfl
            | some t =>
              have := look t (by unfold Oper.looksAt; refine List.mem_append_right _ ?_; rw [hgd]; show t ∈ ((l.toArray[g]?).bind (·.dst)).toList; rw [ht]; simp)
              by_cases hta : t < a.tmps.size
              · have htA : t < A.tmps.size := by rw [hAs, ← hg.size]; exact hta
                simp only [Array.getD_eq_getD_getElem?, Array.getElem?_eq_getElem hta, Array.getElem?_eq_getElem htA, Option.getD_some] at this
                simp [Array.getElem?_eq_getElem hta, Array.getElem?_eq_getElem htA, this]
              · have htA : ¬ t < A.tmps.size := by rw [hAs, ← hg.size]; exact hta
                simp [Array.getElem?_eq_none (Nat.not_lt.1 hta), Array.getElem?_eq_none (Nat.not_lt.1 htA)]
          simp only [hy]
      -- what stands behind it
      have next : ∀ w', J w' → GoingV l vs J a0 (listed.setIfInBounds i true) (a.put l[i].dst v) w' := by
        intro w' hw'
        refine ⟨hw', by rw [put_defers', hg.defers], by rw [put_size, hg.size], fun s hs' => ?_, fun j oj d u hj hlj hd hvj => ?_⟩
        · rw [put_ne a v (hs' i l[i] hol), hg.others s hs']
        · by_cases hji : i = j
          · subst hji
            rw [hol] at hj; injection hj with hj
            rw [← hj] at hd
            rw [hv] at hvj; injection hvj with hvj
            rw [hd, ← hvj]
            exact put_eq a v (by rw [hg.size]; exact hsz i _ d hol hd)
          · have hl' : listed.getD j false = true := by
              simpa [Array.getD_eq_getD_getElem?, Array.getElem?_setIfInBounds, hji] using hlj
            rw [put_ne a v (fun e => hji (hdst i j _ _ d hol hj e hd))]
            exact hg.done j oj d u hj hl' hd hvj
      have go : ∀ w', J w' → wpAny P .any l.toArray Q fuel (listed.setIfInBounds i true) (a.put l[i].dst v) w' := fun w' hw' =>
        ih _ _ _ (by simp [hs]) (open_less hlt hs hu' hn) (by omega) (next w' hw')
      unfold wpOp
      rw [ho]
      simp only
      rcases hst with ⟨hw, hstw⟩ | ⟨hw, hvu⟩
      · rw [hwant] at hw
        simp only [hw, if_true]
        refine .inl (Oper.wp_mono ?_ (wp_other hexec (by rw [hg.size, hAs]) (hstw w hg.world)))
        rintro a' w' ⟨rfl, hw'⟩
        exact go w' hw'
      · rw [hwant] at hw
        simp only [hw, Bool.false_eq_true, if_false]
        rw [← hvu]
        exact go w hg.world
  refine wp_region_any hm (key l.toArray.size _ a0 w0.drew (by simp) ?_ (Nat.le_refl _) ⟨hJ, rfl, rfl, fun _ _ => rfl, fun i o d v ho hl _ _ => ?_⟩)
  · exact Nat.le_trans (List.length_filter_le _ _) (by simp)
  · exfalso
    by_cases hu : i < l.length <;> simp [Array.getD_eq_getD_getElem?, hu] at hl
end

end Go.Proofs.Ytiocchmlmcoieaa
/- A region that draws its order, where some operations stand in a chain and write or make memory, and the others read what does not change until it is taken. -/
namespace Go.Proofs.Ytiocchmlmcoieaa
open Go.RowKit

section
variable {P : Program} {Q : Exit → Act → World → Prop}

/-- What an operation is: it reads, and gives this value, as long as no more than k of the chain are done; or it is the k-th of the chain. -/
inductive Job where
  | quiet (v : Value) (k : Nat)
  | chain (k : Nat)
def Job.val (vals : Nat → Value) : Job → Value
  | .quiet v _ => v
  | .chain k => vals k
def upd (vals : Nat → Value) (k : Nat) (u : Value) : Nat → Value := fun j => if j = k then u else vals j
/-- What is asked of the operations, in the order of the text. -/
def SeqW (P : Program) (JC : Nat → World → (Nat → Value) → Prop) (Q : Exit → Act → World → Prop) (vals : Nat → Value) : List Oper → List Job → Act → Prop
  | o :: l, .quiet v kq :: js, a => (∀ k, k ≤ kq → ∀ w, JC k w vals → o.wp P a w (fun a' w' => ∃ u, a' = a.put o.dst u ∧ (u = v ∧ w' = w)) (NoPanic Q)) ∧ SeqW P JC Q vals l js (a.put o.dst v)
  | o :: l, .chain k :: js, a => (∀ w, JC k w vals → o.wp P a w (fun a' w' => ∃ u, a' = a.put o.dst u ∧ JC (k + 1) w' (upd vals k u)) (NoPanic Q)) ∧ SeqW P JC Q vals l js (a.put o.dst (vals k))
  | _, _, _ => True
/-- One operation's part. -/
def StepW (P : Program) (JC : Nat → World → (Nat → Value) → Prop) (Q : Exit → Act → World → Prop) (vals : Nat → Value) (o : Oper) (a : Act) : Job → Prop
  | .quiet v kq => ∀ k, k ≤ kq → ∀ w, JC k w vals → o.wp P a w (fun a' w' => ∃ u, a' = a.put o.dst u ∧ (u = v ∧ w' = w)) (NoPanic Q)
  | .chain k => ∀ w, JC k w vals → o.wp P a w (fun a' w' => ∃ u, a' = a.put o.dst u ∧ JC (k + 1) w' (upd vals k u)) (NoPanic Q)
theorem SeqW.get {JC : Nat → World → (Nat → Value) → Prop} {vals : Nat → Value} : ∀ (l : List Oper) (js : List Job) (a : Act), SeqW P JC Q vals l js a → ∀ (i : Nat) (o : Oper) (j : Job), l[i]? = some o → js[i]? = some j → StepW P JC Q vals o (putAll a (l.take i) ((js.take i).map (Job.val vals))) j
  | [], _, _, _, i, o, j, h, _ => by simp at h
  | _ :: _, [], _, _, i, o, j, _, h => by simp at h
  | x :: l, .quiet v kq :: js, a, h, i, o, j, ho, hj => by
    obtain ⟨h1, h2⟩ := h
    cases i with
    | zero => simp at ho hj; subst ho; subst hj; exact h1
    | succ i => have := SeqW.get l js _ h2 i o j (by simpa using ho) (by simpa using hj); simpa [putAll, Job.val] using this
  | x :: l, .chain k :: js, a, h, i, o, j, ho, hj => by
    obtain ⟨h1, h2⟩ := h
    cases i with
    | zero => simp at ho hj; subst ho; subst hj; exact h1
    | succ i => have := SeqW.get l js _ h2 i o j (by simpa using ho) (by simpa using hj); simpa [putAll, Job.val] using this
/-- An operation that looks at the same gives the same. -/
theorem wp_other' {o : Oper} {a b : Act} {w : World} {R : Value → World → Prop} (he : execOp a.eval o = execOp b.eval o) (hs : b.tmps.size = a.tmps.size)
    (h : o.wp P a w (fun a' w' => ∃ u, a' = a.put o.dst u ∧ R u w') (NoPanic Q)) : o.wp P b w (fun a' w' => ∃ u, a' = b.put o.dst u ∧ R u w') Q := by
  unfold Oper.wp at *
  rw [he] at h
  generalize (execOp b.eval o).run P w = r at *
  cases r with
  | ok n w' =>
    cases n <;> simp only [Oper.upon] at h ⊢
    case value u => obtain ⟨u', h1, h2⟩ := h; exact ⟨u', put_same h1 hs, h2⟩
    case skip => obtain ⟨u', h1, h2⟩ := h; exact ⟨u', put_same h1 hs, h2⟩
    case defer d =>
      exfalso
      obtain ⟨u', h1, h2⟩ := h
      have := congrArg Act.defers h1
      rw [put_defers', put_defers'] at this
      have := congrArg List.length this
      simp at this
    case enter f args =>
      refine Calls.mono h fun e w'' he => ?_
      cases e with
      | returned u => obtain ⟨u', h1, h2⟩ := he; exact ⟨u', put_same h1 hs, h2⟩
      | panicked c => exact he.elim
      | outgrown => obtain ⟨a1, w1, h1⟩ := he; exact ⟨a1, w1, h1⟩
    case row row args => exact Rows.mono h fun u w'' he => by obtain ⟨u', h1, h2⟩ := he; exact ⟨u', put_same h1 hs, h2⟩
  | halt x w' =>
    cases x <;> simp only [Oper.upon] at h ⊢
    case panic u => exact h.elim
def Job.isChain (k : Nat) : Job → Bool
  | .chain j => j == k
  | _ => false
/-- The region's form besides fitsV's: no guards; the chain is one: each waits for the one before, each number stands once; what a reader gives is taken by the one of the chain at its bound. -/
def fitsW (ops : List Oper) (js : List Job) (m : Nat) : Bool :=
  decide (js.length = ops.length) && ops.all (fun o => o.guard.isNone) &&
  ((List.range m).all fun k => js.any (Job.isChain k)) &&
  ((js.zipIdx.all fun x => match x.1 with
    | .chain k => decide (k < m) && (js.zipIdx.all fun y => !(Job.isChain k y.1) || decide (y.2 = x.2)) && (k == 0 || ((ops[x.2]?).map fun o => o.after.any fun e => Region.binds .any e && ((js[e.on]?).map (Job.isChain (k - 1))).getD false).getD false)
    | .quiet _ kq => js.zipIdx.all fun y => !(Job.isChain kq y.1) || ((ops[y.2]?).map fun o => o.after.any fun e => Region.binds .any e && e.on == x.2).getD false))
/-- As fitsV; but a slot that is looked at may also be written later, by an operation that waits for the look. -/
def fitsV2 (ops : List Oper) (n : Nat) : Bool :=
  ops.all (fun o => match o.op with | .select .. => false | _ => true) && (ops.zipIdx.all fun x => x.1.after.all fun e => !Region.binds .any e || decide (e.on < x.2)) &&
  decide ((ops.filterMap (·.dst)).Nodup) && (ops.all fun o => match o.dst with | some d => decide (d < n) | none => true) &&
  ops.zipIdx.all fun x => (x.1.looksAt ops.toArray).all fun s => ops.zipIdx.all fun y => y.1.dst != some s || (decide (y.2 < x.2) && x.1.after.any fun e => e.on == y.2 && Region.binds .any e) || (decide (x.2 < y.2) && y.1.after.any fun e => e.on == x.2 && Region.binds .any e)
/-- Between two operations. -/
structure GoingW (l : List Oper) (js : List Job) (m : Nat) (JC : Nat → World → (Nat → Value) → Prop) (a0 : Act) (listed : Array Bool) (a : Act) (w : World) (k : Nat) (vals : Nat → Value) : Prop where
  world : JC k w vals
  le : k ≤ m
  chain : ∀ (i kk : Nat), js[i]? = some (.chain kk) → (listed.getD i false = true ↔ kk < k)
  down : ∀ (u : Nat) (o : Oper), listed.getD u false = true → l[u]? = some o → ∀ e ∈ o.after, Region.binds .any e = true → listed.getD e.on false = true
  defers : a.defers = a0.defers
  size : a.tmps.size = a0.tmps.size
  others : ∀ s, (∀ (i : Nat) (o : Oper), l[i]? = some o → o.dst ≠ some s) → a.tmps.getD s undef = a0.tmps.getD s undef
  done : ∀ (i : Nat) (o : Oper) (d : Nat) (j : Job), l[i]? = some o → listed.getD i false = true → o.dst = some d → js[i]? = some j → a.tmps.getD d undef = j.val vals
  still : ∀ (i : Nat) (o : Oper) (d : Nat), l[i]? = some o → listed.getD i false ≠ true → o.dst = some d → a.tmps.getD d undef = a0.tmps.getD d undef
theorem wp_region_chain {l : List Oper} {js : List Job} {m : Nat} {id : Nat} {a0 : Act} {w0 : World} (hm : P.follows .mixedOrders = true) (JC : Nat → World → (Nat → Value) → Prop) (hok : fitsV2 l a0.tmps.size = true) (hokw : fitsW l js m = true)
    (hJ : ∃ vals, JC 0 w0.drew vals) (h : ∀ vals, SeqW P JC Q vals l js a0) (hfin : ∀ w vals, JC m w vals → Q .normal (putAll a0 l (js.map (Job.val vals))) w) : (Code.region id l.toArray true).wp P Q a0 w0 := by
  unfold fitsW at hokw
  simp only [Bool.and_eq_true, decide_eq_true_eq] at hokw
  obtain ⟨⟨⟨hjl, hg0⟩, hex⟩, hch⟩ := hokw
  have hguard : ∀ (i : Nat) (o : Oper), l[i]? = some o → o.guard = none := by
    intro i o ho
    rw [List.all_eq_true] at hg0
    have := hg0 o (List.mem_of_getElem? ho)
    simpa using this
  have hexk : ∀ k, k < m → ∃ i : Nat, js[i]? = some (Job.chain k) := by
    intro k hk
    rw [List.all_eq_true] at hex
    have := hex k (List.mem_range.2 hk)
    rw [List.any_eq_true] at this
    obtain ⟨j, hj, hc⟩ := this
    obtain ⟨i, hi⟩ := List.mem_iff_getElem?.1 hj
    cases j with
    | quiet v kq => simp [Job.isChain] at hc
    | chain k' => simp [Job.isChain] at hc; subst hc; exact ⟨i, hi⟩
  have hone : ∀ (i j k : Nat), js[i]? = some (.chain k) → js[j]? = some (.chain k) → j = i := by
    intro i j k hi hj
    rw [List.all_eq_true] at hch
    have := hch (.chain k, i) (by rw [List.mem_zipIdx_iff_getElem?]; exact hi)
    simp only [Bool.and_eq_true, List.all_eq_true] at this
    have := this.1.2 (.chain k, j) (by rw [List.mem_zipIdx_iff_getElem?]; exact hj)
    simpa [Job.isChain] using this
  have hlt : ∀ (i k : Nat), js[i]? = some (.chain k) → k < m := by
    intro i k hi
    rw [List.all_eq_true] at hch
    have := hch (.chain k, i) (by rw [List.mem_zipIdx_iff_getElem?]; exact hi)
    simp only [Bool.and_eq_true, decide_eq_true_eq] at this
    exact this.1.1
  have hprev : ∀ (i k : Nat) (o : Oper), js[i]? = some (.chain (k + 1)) → l[i]? = some o → ∃ e ∈ o.after, Region.binds .any e = true ∧ js[e.on]? = some (.chain k) := by
    intro i k o hi ho
    rw [List.all_eq_true] at hch
    have := hch (.chain (k + 1), i) (by rw [List.mem_zipIdx_iff_getElem?]; exact hi)
    simp only [Bool.and_eq_true, Nat.add_sub_cancel, ho, Option.map_some, Option.getD_some, Bool.or_eq_true, Array.any_eq_true] at this
    rcases this.2 with h0 | ⟨q, hq, hb, hc⟩
    · simp at h0
    · refine ⟨_, Array.getElem_mem hq, hb, ?_⟩
      rcases hjo : js[(o.after[q]).on]? with _ | j
      · rw [hjo] at hc; simp at hc
      · rw [hjo] at hc
        cases j with
        | quiet v kq => simp [Job.isChain] at hc
        | chain k' => simp [Job.isChain] at hc; subst hc; rfl
  have htake : ∀ (i j kq : Nat) (v : Value) (o : Oper), js[i]? = some (.quiet v kq) → js[j]? = some (.chain kq) → l[j]? = some o → ∃ e ∈ o.after, Region.binds .any e = true ∧ e.on = i := by
    intro i j kq v o hi hj ho
    rw [List.all_eq_true] at hch
    have := hch (.quiet v kq, i) (by rw [List.mem_zipIdx_iff_getElem?]; exact hi)
    simp only [List.all_eq_true] at this
    have := this (.chain kq, j) (by rw [List.mem_zipIdx_iff_getElem?]; exact hj)
    simp only [Job.isChain, beq_self_eq_true, Bool.not_true, Bool.false_or, ho, Option.map_some, Option.getD_some, Array.any_eq_true, Bool.and_eq_true] at this
    obtain ⟨q, hq, hb, hc⟩ := this
    exact ⟨_, Array.getElem_mem hq, hb, by simpa using hc⟩
  unfold fitsV2 at hok
  simp only [Bool.and_eq_true, decide_eq_true_eq] at hok
  obtain ⟨⟨⟨⟨h1, h2⟩, h3⟩, h4⟩, h5⟩ := hok
  have hsel : ∀ (i : Nat) (o : Oper), l[i]? = some o → ∀ cs b, o.op ≠ .select cs b := by
    intro i o ho cs b hb
    rw [List.all_eq_true] at h1
    have := h1 o (List.mem_of_getElem? ho)
    rw [hb] at this
    simp at this
  have hback : ∀ (i : Nat) (o : Oper), l[i]? = some o → ∀ e ∈ o.after, Region.binds .any e = true → e.on < i := by
    intro i o ho e he hbd
    rw [List.all_eq_true] at h2
    have := h2 (o, i) (by rw [List.mem_zipIdx_iff_getElem?]; exact ho)
    simp only [Array.all_eq_true] at this
    obtain ⟨k, hk, rfl⟩ := Array.getElem_of_mem he
    have := this k hk
    rw [hbd] at this
    simpa using this
  have hdst : ∀ (i j : Nat) (oi oj : Oper) (d : Nat), l[i]? = some oi → l[j]? = some oj → oi.dst = some d → oj.dst = some d → i = j := nodup_dst l h3
  have hsz : ∀ (i : Nat) (o : Oper) (d : Nat), l[i]? = some o → o.dst = some d → d < a0.tmps.size := by
    intro i o d ho hd
    rw [List.all_eq_true] at h4
    have := h4 o (List.mem_of_getElem? ho)
    rw [hd] at this
    simpa using this
  have hlook : ∀ (i j : Nat) (oi oj : Oper) (s : Nat), l[i]? = some oi → s ∈ oi.looksAt l.toArray → l[j]? = some oj → oj.dst = some s → (j < i ∧ ∃ e ∈ oi.after, e.on = j ∧ Region.binds .any e = true) ∨ (i < j ∧ ∃ e ∈ oj.after, e.on = i ∧ Region.binds .any e = true) := by
    intro i j oi oj s hi hs hj hd
    rw [List.all_eq_true] at h5
    have := h5 (oi, i) (by rw [List.mem_zipIdx_iff_getElem?]; exact hi)
    rw [List.all_eq_true] at this
    have := this s hs
    rw [List.all_eq_true] at this
    have := this (oj, j) (by rw [List.mem_zipIdx_iff_getElem?]; exact hj)
    simp only [hd, bne_self_eq_false, Bool.false_or, Bool.or_eq_true, Bool.and_eq_true, decide_eq_true_eq, Array.any_eq_true] at this
    rcases this with ⟨hlt, k, hk, he⟩ | ⟨hlt, k, hk, he⟩
    · exact .inl ⟨hlt, _, Array.getElem_mem hk, by simpa using he.1, he.2⟩
    · exact .inr ⟨hlt, _, Array.getElem_mem hk, by simpa using he.1, he.2⟩
  have hN : l.toArray.size = l.length := by simp
  have hjob : ∀ i, i < l.length → ∃ j : Job, js[i]? = some j := fun i hi => ⟨_, List.getElem?_eq_getElem (by rw [hjl]; exact hi)⟩
  have key : ∀ (fuel : Nat) (listed : Array Bool) (a : Act) (w : World) (k : Nat) (vals : Nat → Value), listed.size = l.toArray.size → ((List.range l.toArray.size).filter fun j => !listed.getD j true).length ≤ fuel → fuel ≤ l.toArray.size → GoingW l js m JC a0 listed a w k vals →
      wpAny P .any l.toArray Q fuel listed a w := by
    have last : ∀ (listed : Array Bool) (a : Act) (w : World) (k : Nat) (vals : Nat → Value), listed.size = l.toArray.size → Region.ready .any l.toArray listed = [] → GoingW l js m JC a0 listed a w k vals → Q .normal a w := by
      intro listed a w k vals hs hr hg
      have all : ∀ i, i < l.length → listed.getD i false = true := by
        intro i
        induction i using Nat.strongRecOn with
        | ind i ih =>
          intro hi
          rcases hb : listed.getD i false with _ | _
          · exfalso
            have hmem : i ∈ Region.ready .any l.toArray listed := by
              unfold Region.ready
              simp only [List.mem_filter, List.mem_range, Bool.and_eq_true]
              refine ⟨by rw [hN]; exact hi, ?_, ?_⟩
              · have : listed.getD i true = listed.getD i false := by
                  simp [Array.getD_eq_getD_getElem?, Array.getElem?_eq_getElem (show i < listed.size by omega)]
                rw [this, hb]; rfl
              · have hlo : l.toArray[i]? = some l[i] := by simp [hi]
                rw [hlo]
                simp only [Option.map_some, Option.getD_some, Array.all_eq_true]
                intro j hj
                rcases hbd : Region.binds .any (l[i].after[j]) with _ | _
                · simp
                · have hlt := hback i l[i] (List.getElem?_eq_getElem hi) (l[i].after[j]) (Array.getElem_mem hj) hbd
                  have := ih _ hlt (by omega)
                  simp [this]
            rw [hr] at hmem; simp at hmem
          · rfl
      have hkm : k = m := by
        rcases Nat.lt_or_ge k m with h1 | h1
        · obtain ⟨i, hi⟩ := hexk k h1
          have hil : i < l.length := by
            rcases Nat.lt_or_ge i js.length with h | h
            · rw [← hjl]; exact h
            · rw [List.getElem?_eq_none h] at hi; cases hi
          have := (hg.chain i k hi).1 (all i hil)
          omega
        · exact Nat.le_antisymm hg.le h1
      have e : a = putAll a0 l (js.map (Job.val vals)) := by
        have et : a.tmps = (putAll a0 l (js.map (Job.val vals))).tmps := by
          apply Array.ext
          · rw [hg.size, putAll_size]
          · intro s hs1 hs2
            have : a.tmps.getD s undef = (putAll a0 l (js.map (Job.val vals))).tmps.getD s undef := by
              by_cases hx : ∃ (i : Nat) (o : Oper), l[i]? = some o ∧ o.dst = some s
              · obtain ⟨i, o, ho, hd⟩ := hx
                have hil : i < l.length := by
                  rcases Nat.lt_or_ge i l.length with h | h
                  · exact h
                  · rw [List.getElem?_eq_none h] at ho; cases ho
                obtain ⟨j, hj⟩ := hjob i hil
                rw [hg.done i o s j ho (all i hil) hd hj, putAll_at l _ a0 s i o (j.val vals) ho hd (by rw [List.getElem?_map, hj]; rfl) (hsz i o s ho hd) (fun k' o' hk hd' => hdst k' i o' o s hk ho hd' hd)]
              · have hx' : ∀ (i : Nat) (o : Oper), l[i]? = some o → o.dst ≠ some s := fun i o ho hd => hx ⟨i, o, ho, hd⟩
                rw [hg.others s hx', putAll_other l _ a0 s hx']
            simpa [Array.getD_eq_getD_getElem?, hs1, hs2] using this
        have ed : a.defers = (putAll a0 l (js.map (Job.val vals))).defers := by rw [hg.defers, putAll_defers]
        cases a; cases hp : putAll a0 l (js.map (Job.val vals))
        rw [hp] at et ed
        simp only at et ed
        rw [et, ed]
      rw [e]
      exact hfin w vals (hkm ▸ hg.world)
    intro fuel
    induction fuel with
    | zero =>
      intro listed a w k vals hs hn hfu hg
      have hr : Region.ready .any l.toArray listed = [] := by
        have h0 : ((List.range l.toArray.size).filter fun j => !listed.getD j true) = [] := List.eq_nil_of_length_eq_zero (by omega)
        unfold Region.ready
        rw [List.filter_eq_nil_iff] at h0 ⊢
        intro j hj hc
        exact h0 j hj (by simp only [Bool.and_eq_true] at hc; exact hc.1)
      exact ⟨hr, last listed a w k vals hs hr hg⟩
    | succ fuel ih =>
      intro listed a w k vals hs hn hfu hg
      refine ⟨fun hr => last listed a w k vals hs hr hg, fun i hi => ?_⟩
      unfold Region.ready at hi
      simp only [List.mem_filter, List.mem_range, Bool.and_eq_true] at hi
      obtain ⟨hlt0, hu, haf⟩ := hi
      have hlt' : i < l.length := by rw [← hN]; exact hlt0
      have ho : l.toArray[i]? = some l[i] := by simp [hlt']
      have hol : l[i]? = some l[i] := List.getElem?_eq_getElem hlt'
      have hu' : listed.getD i true = false := by simpa using hu
      have hfi : listed.getD i false ≠ true := by
        intro h
        have : listed.getD i true = listed.getD i false := by
          simp [Array.getD_eq_getD_getElem?, Array.getElem?_eq_getElem (show i < listed.size by omega)]
        rw [hu', h] at this; cases this
      have hpre : ∀ e ∈ l[i].after, Region.binds .any e = true → listed.getD e.on false = true := by
        intro e he hbind
        rw [ho] at haf
        simp only [Option.map_some, Option.getD_some, Array.all_eq_true] at haf
        obtain ⟨q, hq, rfl⟩ := Array.getElem_of_mem he
        have := haf q hq
        simpa [hbind] using this
      obtain ⟨job, hj⟩ := hjob i hlt'
      have hst := SeqW.get l js a0 (h vals) i l[i] job hol hj
      obtain ⟨A, hA⟩ : ∃ A, putAll a0 (l.take i) ((js.take i).map (Job.val vals)) = A := ⟨_, rfl⟩
      rw [hA] at hst
      have hAs : A.tmps.size = a0.tmps.size := by rw [← hA, putAll_size]
      have look : ∀ s ∈ l[i].looksAt l.toArray, A.tmps.getD s undef = a.tmps.getD s undef := by
        intro s hsl
        by_cases hx : ∃ (j : Nat) (o : Oper), l[j]? = some o ∧ o.dst = some s
        · obtain ⟨j, o, hj2, hd⟩ := hx
          rcases hlook i j l[i] o s hol hsl hj2 hd with ⟨hji, e, he, hej, heb⟩ | ⟨hij, e, he, hei, heb⟩
          · obtain ⟨jj, hjj⟩ := hjob j (by omega)
            have hls := hpre e he heb
            rw [hej] at hls
            rw [hg.done j o s jj hj2 hls hd hjj, ← hA]
            refine putAll_at _ _ a0 s j o _ (by rw [List.getElem?_take_of_lt hji]; exact hj2) hd (by rw [List.getElem?_map, List.getElem?_take_of_lt hji, hjj]; rfl) (hsz j o s hj2 hd) (fun k' o' hk hd' => ?_)
            rw [List.getElem?_take] at hk
            split at hk
            · exact hdst k' j o' o s hk hj2 hd' hd
            · cases hk
          · have hjn : listed.getD j false ≠ true := fun h => by
              have := hg.down j o h hj2 e he heb
              rw [hei] at this
              exact hfi this
            rw [hg.still j o s hj2 hjn hd, ← hA]
            refine putAll_other _ _ a0 s (fun k' o' hk hd' => ?_)
            rw [List.getElem?_take] at hk
            split at hk
            · have := hdst k' j o' o s hk hj2 hd' hd; omega
            · cases hk
        · have hx' : ∀ (i : Nat) (o : Oper), l[i]? = some o → o.dst ≠ some s := fun i o ho hd => hx ⟨i, o, ho, hd⟩
          rw [hg.others s hx', ← hA, putAll_other _ _ a0 s (fun k' o' hk => by
            rw [List.getElem?_take] at hk
            split at hk
            · exact hx' k' o' hk
            · cases hk)]
      have hexec : execOp A.eval l[i] = execOp a.eval l[i] := by
        refine execOp_congr l[i] (hsel i l[i] hol) fun x hx => ?_
        cases x with
        | tmp t =>
          refine look t ?_
          unfold Oper.looksAt
          exact List.mem_append_left _ (List.mem_filterMap.2 ⟨.tmp t, by simpa using hx, rfl⟩)
        | _ => rfl
      have hset : ∀ u, (listed.setIfInBounds i true).getD u false = true ↔ u = i ∨ listed.getD u false = true := by
        intro u
        by_cases hui : i = u
        · subst hui
          simp [Array.getD_eq_getD_getElem?, hs, hlt']
        · have hne : ¬ u = i := fun e => hui e.symm
          simp [Array.getD_eq_getD_getElem?, hui, hne]
      have go : ∀ (w' : World) (u : Value) (k' : Nat) (vals' : Nat → Value), JC k' w' vals' → k' ≤ m → (∀ (i' kk : Nat), js[i']? = some (.chain kk) → ((listed.setIfInBounds i true).getD i' false = true ↔ kk < k')) →
          (∀ (i' : Nat) (j' : Job), js[i']? = some j' → listed.getD i' false = true → j'.val vals' = j'.val vals) → job.val vals' = u → wpAny P .any l.toArray Q fuel (listed.setIfInBounds i true) (a.put l[i].dst u) w' := fun w' u k' vals' hw' hk' hc' hv' hu2 => by
        refine ih _ _ _ k' vals' (by simp [hs]) (open_less hlt0 hs hu' hn) (by omega) ⟨hw', hk', hc', ?_, by rw [put_defers', hg.defers], by rw [put_size, hg.size], fun s hs' => ?_, fun j oj d jj hjl' hlj hd hjj => ?_, fun j oj d hjl' hlj hd => ?_⟩
        · intro v o hv hov e he hbd
          rw [hset] at hv ⊢
          rcases hv with rfl | hv
          · rw [hol] at hov; injection hov with hov; subst hov
            exact .inr (hpre e he hbd)
          · exact .inr (hg.down v o hv hov e he hbd)
        · rw [put_ne a u (hs' i l[i] hol), hg.others s hs']
        · by_cases hji : i = j
          · subst hji
            rw [hol] at hjl'; injection hjl' with hjl'
            rw [← hjl'] at hd
            rw [hj] at hjj; injection hjj with hjj
            rw [hd, ← hjj, hu2]
            exact put_eq a u (by rw [hg.size]; exact hsz i _ d hol hd)
          · have hl' : listed.getD j false = true := by
              simpa [Array.getD_eq_getD_getElem?, Array.getElem?_setIfInBounds, hji] using hlj
            rw [put_ne a u (fun e => hji (hdst i j _ _ d hol hjl' e hd)), hg.done j oj d jj hjl' hl' hd hjj]
            exact (hv' j jj hjj hl').symm
        · have hji : i ≠ j := fun e => hlj (by rw [hset]; exact .inl e.symm)
          rw [put_ne a u (fun e => hji (hdst i j _ _ d hol hjl' e hd))]
          exact hg.still j oj d hjl' (fun h => hlj (by rw [hset]; exact .inr h)) hd
      unfold wpOp
      rw [ho]
      have hw : Region.wanted l[i] (yielded l.toArray a.tmps) = true := by
        unfold Region.wanted; rw [hguard i _ hol]
      simp only [hw, if_true]
      cases job with
      | quiet v kq =>
        have hkq : k ≤ kq := by
          rcases Nat.lt_or_ge kq k with h1 | h1
          · exfalso
            obtain ⟨j, hjc⟩ := hexk kq (Nat.lt_of_lt_of_le h1 hg.le)
            have hjl2 : j < l.length := by
              rcases Nat.lt_or_ge j js.length with h | h
              · rw [← hjl]; exact h
              · rw [List.getElem?_eq_none h] at hjc; cases hjc
            obtain ⟨e, he, hb, hei⟩ := htake i j kq v l[j] hj hjc (List.getElem?_eq_getElem hjl2)
            have := hg.down j l[j] ((hg.chain j kq hjc).2 h1) (List.getElem?_eq_getElem hjl2) e he hb
            rw [hei] at this
            exact hfi this
          · exact h1
        refine .inl (Oper.wp_mono ?_ (wp_other' hexec (by rw [hg.size, hAs]) (hst k hkq w hg.world)))
        rintro a' w' ⟨u, rfl, rfl, rfl⟩
        refine go _ _ k vals hg.world hg.le (fun i' kk hi' => ?_) (fun _ _ _ _ => rfl) rfl
        rw [hset, ← hg.chain i' kk hi']
        constructor
        · rintro (rfl | h1)
          · rw [hj] at hi'; cases hi'
          · exact h1
        · exact .inr
      | chain kk =>
        have hkk : kk = k := by
          have h1 : ¬ kk < k := fun h1 => hfi ((hg.chain i kk hj).2 h1)
          rcases Nat.lt_or_ge k kk with h2 | h2
          · exfalso
            obtain ⟨kp, rfl⟩ : ∃ kp, kk = kp + 1 := ⟨kk - 1, by omega⟩
            obtain ⟨e, he, hb, hep⟩ := hprev i kp l[i] hj hol
            have := (hg.chain e.on kp hep).1 (hpre e he hb)
            omega
          · omega
        subst hkk
        refine .inl (Oper.wp_mono ?_ (wp_other' hexec (by rw [hg.size, hAs]) (hst w hg.world)))
        rintro a' w' ⟨u, rfl, hjc⟩
        refine go _ u (kk + 1) (upd vals kk u) hjc (hlt i kk hj) (fun i' kk' hi' => ?_) (fun i' j' hi' hl' => ?_) (by simp [Job.val, upd])
        · rw [hset, hg.chain i' kk' hi']
          constructor
          · rintro (rfl | h1)
            · rw [hj] at hi'; injection hi' with hi'; injection hi' with hi'; omega
            · omega
          · intro h1
            rcases Nat.lt_or_ge kk' kk with h2 | h2
            · exact .inr h2
            · have : kk' = kk := by omega
              subst this
              exact .inl (hone i i' kk' hj hi')
        · cases j' with
          | quiet v kq => rfl
          | chain k2 =>
            have := (hg.chain i' k2 hi').1 hl'
            simp [Job.val, upd, show k2 ≠ kk by omega]
  obtain ⟨vals0, hJ0⟩ := hJ
  refine wp_region_any hm (key l.toArray.size _ a0 w0.drew 0 vals0 (by simp) ?_ (Nat.le_refl _) ⟨hJ0, Nat.zero_le _, fun i kk _ => ?_, fun u o hl => ?_, rfl, rfl, fun _ _ => rfl, fun i o d v ho hl _ _ => ?_, fun _ _ _ _ _ _ => rfl⟩)
  · exact Nat.le_trans (List.length_filter_le _ _) (by simp)
  · constructor
    · intro hl
      exfalso
      by_cases hu : i < l.length <;> simp [Array.getD_eq_getD_getElem?, hu] at hl
    · intro h; omega
  · exfalso
    by_cases hu : u < l.length <;> simp [Array.getD_eq_getD_getElem?, hu] at hl
  · exfalso
    by_cases hu : i < l.length <;> simp [Array.getD_eq_getD_getElem?, hu] at hl
end

end Go.Proofs.Ytiocchmlmcoieaa
/- A region that draws its order, where what the world is asked to be hangs on the operations that are done, and on what they gave. -/
namespace Go.Proofs.Ytiocchmlmcoieaa
open Go.RowKit

section
variable {P : Program} {ops : Array Oper} {Q : Exit → Act → World → Prop}

/-- Between two operations of a region that draws its order: what 'J' says of the world and of the values of the operations that are done. -/
structure Going4 (ops : Array Oper) (J : (Nat → Prop) → World → (Nat → Value) → Prop) (a0 : Act) (listed : Array Bool) (a : Act) (w : World) (vals : Nat → Value) : Prop where
  world : J (fun u => listed.getD u false = true) w vals
  defers : a.defers = a0.defers
  size : a.tmps.size = a0.tmps.size
  down : ∀ (u : Nat) (o : Oper), listed.getD u false = true → ops[u]? = some o → ∀ e ∈ o.after, Region.binds .any e = true → listed.getD e.on false = true
  others : ∀ s, (∀ (i : Nat) (o : Oper), ops[i]? = some o → o.dst ≠ some s) → a.tmps.getD s undef = a0.tmps.getD s undef
  done : ∀ (i : Nat) (o : Oper) (d : Nat), ops[i]? = some o → listed.getD i false = true → o.dst = some d → a.tmps.getD d undef = vals i

/-- What one operation leaves. -/
def After4 (D : Nat → Prop) (J : (Nat → Prop) → World → (Nat → Value) → Prop) (vals : Nat → Value) (i : Nat) (d : Option Tmp) (a : Act) (a' : Act) (w' : World) : Prop :=
  ∃ v, a' = a.put d v ∧ J (fun u => u = i ∨ D u) w' (upd vals i v)
theorem After4.mk {D : Nat → Prop} {J : (Nat → Prop) → World → (Nat → Value) → Prop} {vals : Nat → Value} {i : Nat} {d : Option Tmp} {a : Act} {a' : Act} {w' : World} (v : Value) (h : a' = a.put d v) (hJ : J (fun u => u = i ∨ D u) w' (upd vals i v)) : After4 D J vals i d a a' w' := ⟨v, h, hJ⟩
/-- What is asked of one operation. -/
def StepsTo4 (P : Program) (ops : Array Oper) (J : (Nat → Prop) → World → (Nat → Value) → Prop) (a0 : Act) (Q : Exit → Act → World → Prop) (i : Nat) (o : Oper) : Prop :=
  ∀ a w (D : Nat → Prop) vals, J D w vals → (∀ (u : Nat) (o : Oper), D u → ops[u]? = some o → ∀ e ∈ o.after, Region.binds .any e = true → D e.on) → (∀ e ∈ o.after, Region.binds .any e = true → D e.on) → ¬ D i → (∀ s, (∀ (i : Nat) (o : Oper), ops[i]? = some o → o.dst ≠ some s) → a.tmps.getD s undef = a0.tmps.getD s undef) →
    (∀ e ∈ o.after, ∀ (oj : Oper) (d : Nat), ops[e.on]? = some oj → oj.dst = some d → e.ground = Ground.data → a.tmps.getD d undef = vals e.on) →
    o.wp P a w (After4 D J vals i o.dst a) Q

theorem wp_region_vals {id : Nat} {a0 : Act} {w0 : World} (hm : P.follows .mixedOrders = true) (J : (Nat → Prop) → World → (Nat → Value) → Prop)
    (hguard : ∀ (i : Nat) (o : Oper), ops[i]? = some o → o.guard = none)
    (hback : ∀ (i : Nat) (o : Oper), ops[i]? = some o → ∀ e ∈ o.after, Region.binds .any e = true → e.on < i)
    (hdst : ∀ (i j : Nat) (oi oj : Oper) (d : Nat), ops[i]? = some oi → ops[j]? = some oj → oi.dst = some d → oj.dst = some d → i = j)
    (hsz : ∀ (i : Nat) (o : Oper) (d : Nat), ops[i]? = some o → o.dst = some d → d < a0.tmps.size)
    (hJ : ∃ vals, J (fun _ => False) w0.drew vals)
    (hstep : ∀ (i : Nat) (o : Oper), ops[i]? = some o → StepsTo4 P ops J a0 Q i o)
    (hfin : ∀ a w vals, Going4 ops J a0 (Array.replicate ops.size true) a w vals → Q .normal a w) :
    (Code.region id ops true).wp P Q a0 w0 := by
  have key : ∀ (fuel : Nat) (listed : Array Bool) (a : Act) (w : World) (vals : Nat → Value), listed.size = ops.size → ((List.range ops.size).filter fun j => !listed.getD j true).length ≤ fuel → fuel ≤ ops.size → Going4 ops J a0 listed a w vals →
      wpAny P .any ops Q fuel listed a w := by
    have last : ∀ (listed : Array Bool) (a : Act) (w : World) (vals : Nat → Value), listed.size = ops.size → Region.ready .any ops listed = [] → Going4 ops J a0 listed a w vals → Q .normal a w := by
      intro listed a w vals hs hr hg
      have all : ∀ i, i < ops.size → listed.getD i false = true := by
        intro i
        induction i using Nat.strongRecOn with
        | ind i ih =>
          intro hi
          rcases hb : listed.getD i false with _ | _
          · exfalso
            have hmem : i ∈ Region.ready .any ops listed := by
              unfold Region.ready
              simp only [List.mem_filter, List.mem_range, Bool.and_eq_true]
              refine ⟨hi, ?_, ?_⟩
              · have : listed.getD i true = listed.getD i false := by
                  simp [Array.getD_eq_getD_getElem?, Array.getElem?_eq_getElem (show i < listed.size by omega)]
                rw [this, hb]; rfl
              · rw [Array.getElem?_eq_getElem hi]
                simp only [Option.map_some, Option.getD_some, Array.all_eq_true]
                intro j hj
                rcases hbd : Region.binds .any (ops[i].after[j]) with _ | _
                · simp
                · have hlt := hback i ops[i] (Array.getElem?_eq_getElem hi) (ops[i].after[j]) (Array.getElem_mem hj) hbd
                  have := ih _ hlt (by omega)
                  simp [this]
            rw [hr] at hmem; simp at hmem
          · rfl
      have hD : (fun u => listed.getD u false = true) = (fun u => (Array.replicate ops.size true).getD u false = true) := by
        funext u
        apply propext
        by_cases hu : u < ops.size
        · simp [all u hu, Array.getD_eq_getD_getElem?, hu]
        · simp [Array.getD_eq_getD_getElem?, hu, hs]
      refine hfin a w vals ⟨hD ▸ hg.world, hg.defers, hg.size, ?_, hg.others, fun i o d ho _ hd => ?_⟩
      · intro u o _ ho e he hbd
        have hu : u < ops.size := by
          rcases Nat.lt_or_ge u ops.size with h | h
          · exact h
          · rw [Array.getElem?_eq_none h] at ho; cases ho
        have := hback u o ho e he hbd
        simp [Array.getD_eq_getD_getElem?, show e.on < ops.size by omega]
      have hi : i < ops.size := by
        rcases Nat.lt_or_ge i ops.size with h | h
        · exact h
        · rw [Array.getElem?_eq_none h] at ho; cases ho
      exact hg.done i o d ho (all i hi) hd
    intro fuel
    induction fuel with
    | zero =>
      intro listed a w vals hs hn hfu hg
      have hr : Region.ready .any ops listed = [] := by
        have h0 : ((List.range ops.size).filter fun j => !listed.getD j true) = [] := List.eq_nil_of_length_eq_zero (by omega)
        unfold Region.ready
        rw [List.filter_eq_nil_iff] at h0 ⊢
        intro j hj hc
        exact h0 j hj (by simp only [Bool.and_eq_true] at hc; exact hc.1)
      exact ⟨hr, last listed a w vals hs hr hg⟩
    | succ fuel ih =>
      intro listed a w vals hs hn hfu hg
      refine ⟨fun hr => last listed a w vals hs hr hg, fun i hi => ?_⟩
      unfold Region.ready at hi
      simp only [List.mem_filter, List.mem_range, Bool.and_eq_true] at hi
      obtain ⟨hlt, hu, haf⟩ := hi
      have ho : ops[i]? = some ops[i] := Array.getElem?_eq_getElem hlt
      have hu' : listed.getD i true = false := by simpa using hu
      unfold wpOp
      rw [ho]
      have hw : Region.wanted ops[i] (yielded ops a.tmps) = true := by
        unfold Region.wanted; rw [hguard i _ ho]
      simp only [hw, if_true]
      have hpre : ∀ e ∈ ops[i].after, Region.binds .any e = true → listed.getD e.on false = true := by
        intro e he hbind
        rw [ho] at haf
        simp only [Option.map_some, Option.getD_some, Array.all_eq_true] at haf
        obtain ⟨k, hk, rfl⟩ := Array.getElem_of_mem he
        have := haf k hk
        simpa [hbind] using this
      have hfi : listed.getD i false ≠ true := by
        intro h
        have : listed.getD i true = listed.getD i false := by
          simp [Array.getD_eq_getD_getElem?, Array.getElem?_eq_getElem (show i < listed.size by omega)]
        rw [hu', h] at this; cases this
      have hset : ∀ u, (listed.setIfInBounds i true).getD u false = true ↔ u = i ∨ listed.getD u false = true := by
        intro u
        by_cases hui : i = u
        · subst hui
          simp [Array.getD_eq_getD_getElem?, hs, hlt]
        · have hne : ¬ u = i := fun e => hui e.symm
          simp [Array.getD_eq_getD_getElem?, hui, hne]
      refine Or.inl (Oper.wp_mono ?_ (hstep i _ ho a w (fun u => listed.getD u false = true) vals hg.world hg.down hpre hfi hg.others ?_))
      · rintro a' w' ⟨v, rfl, hJ'⟩
        refine ih _ _ _ (upd vals i v) (by simp [hs]) (open_less hlt hs hu' hn) (by omega) ⟨(by have hD : (fun u => (listed.setIfInBounds i true).getD u false = true) = (fun u => u = i ∨ listed.getD u false = true) := (funext fun u => propext (hset u)); rw [hD]; exact hJ'), ?_, ?_, ?_, ?_, ?_⟩
        · rw [← hg.defers]; unfold Act.put; split <;> rfl
        · rw [← hg.size]; unfold Act.put; split <;> simp
        · intro u o hu2 hou e he hbd
          rw [hset] at hu2 ⊢
          rcases hu2 with rfl | hu2
          · rw [ho] at hou; injection hou with hou; subst hou
            exact .inr (hpre e he hbd)
          · exact .inr (hg.down u o hu2 hou e he hbd)
        · intro s hs'
          rw [← hg.others s hs']
          have := hs' i _ ho
          unfold Act.put
          split
          · rename_i d hd
            have hne : d ≠ s := fun e => this (by rw [hd, e])
            simp [Array.getD_eq_getD_getElem?, hne]
          · rfl
        · intro j oj d hoj hl hd
          by_cases hji : i = j
          · subst hji
            rw [ho] at hoj; injection hoj with hoj
            rw [← hoj] at hd
            have hdz := hsz i _ d ho hd
            rw [← hg.size] at hdz
            rw [hd]
            have e : upd vals i v i = v := if_pos rfl
            rw [e]
            simp [Act.put, Array.getD_eq_getD_getElem?, hdz]
          · have hl' : listed.getD j false = true := by
              simpa [Array.getD_eq_getD_getElem?, Array.getElem?_setIfInBounds, hji] using hl
            have hr := hg.done j oj d hoj hl' hd
            have hne : ops[i].dst ≠ some d := fun e => hji (hdst i j _ _ d ho hoj e hd)
            have e : (a.put ops[i].dst v).tmps.getD d undef = a.tmps.getD d undef := by
              unfold Act.put
              split
              · rename_i d' hd'
                have : d' ≠ d := fun e => hne (by rw [hd', e])
                simp [Array.getD_eq_getD_getElem?, this]
              · rfl
            have e2 : upd vals i v j = vals j := if_neg fun e => hji e.symm
            rw [e, e2]; exact hr
      · intro e he oj d hoj hd hdata
        exact hg.done e.on oj d hoj (hpre e he (by rw [Region.binds, hdata])) hd
  obtain ⟨vals, hJ⟩ := hJ
  refine wp_region_any hm (key ops.size _ a0 w0.drew vals (by simp) ?_ (Nat.le_refl _) ⟨(by have hD : (fun u => (Array.replicate ops.size false).getD u false = true) = (fun _ => False) := (by funext u; apply propext; by_cases hu : u < ops.size <;> simp [Array.getD_eq_getD_getElem?, hu]); rw [hD]; exact hJ), rfl, rfl, fun u o hl => ?_, fun _ _ => rfl, fun i o d ho hl hd => ?_⟩)
  · exact Nat.le_trans (List.length_filter_le _ _) (by simp)
  · exfalso
    by_cases hu : u < ops.size <;> simp [Array.getD_eq_getD_getElem?, hu] at hl
  · exfalso
    by_cases hu : i < ops.size <;> simp [Array.getD_eq_getD_getElem?, hu] at hl
end
theorem wp_region_vals_lit {P : Program} {l : List Oper} {Q : Exit → Act → World → Prop} {id : Nat} {a0 : Act} {w0 : World} (hm : P.follows .mixedOrders = true) (J : (Nat → Prop) → World → (Nat → Value) → Prop)
    (hok : plainRegion l a0.tmps.size = true) (hJ : ∃ vals, J (fun _ => False) w0.drew vals)
    (hstep : AllFrom (fun i o => StepsTo4 P l.toArray J a0 Q i o) 0 l)
    (hfin : ∀ a w vals, Going4 l.toArray J a0 (Array.replicate l.length true) a w vals → Q .normal a w) :
    (Code.region id l.toArray true).wp P Q a0 w0 := by
  unfold plainRegion at hok
  simp only [Bool.and_eq_true, decide_eq_true_eq] at hok
  obtain ⟨⟨⟨h1, h2⟩, h3⟩, h4⟩ := hok
  have get : ∀ (i : Nat) (o : Oper), l.toArray[i]? = some o → l[i]? = some o := fun i o h => by simpa using h
  refine wp_region_vals hm J ?_ ?_ ?_ ?_ hJ ?_ (by simpa using hfin)
  · intro i o ho
    rw [List.all_eq_true] at h1
    have := h1 o (List.mem_of_getElem? (get i o ho))
    simpa using this
  · intro i o ho e he hbd
    rw [List.all_eq_true] at h2
    have := h2 (o, i) (by rw [List.mem_zipIdx_iff_getElem?]; exact get i o ho)
    simp only [Array.all_eq_true] at this
    obtain ⟨k, hk, rfl⟩ := Array.getElem_of_mem he
    have := this k hk
    rw [hbd] at this
    simpa using this
  · intro i j oi oj d hi hj di dj
    exact nodup_dst l h3 i j oi oj d (get i oi hi) (get j oj hj) di dj
  · intro i o d ho hd
    rw [List.all_eq_true] at h4
    have := h4 o (List.mem_of_getElem? (get i o ho))
    rw [hd] at this
    simpa using this
  · intro i o ho
    have := AllFrom.get l 0 hstep i o (get i o ho)
    rwa [Nat.zero_add] at this

end Go.Proofs.Ytiocchmlmcoieaa

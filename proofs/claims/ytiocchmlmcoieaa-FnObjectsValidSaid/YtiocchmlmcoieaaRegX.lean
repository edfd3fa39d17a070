/-
  A region that draws its order, where some operations stand in a chain and write or make memory, one may be done at any time and makes memory, and the others read what does not change until it is taken, or reckon with what the chain has given.
-/
import Derived.Test.YtiocchmlmcoieaaRegionV
namespace Go.Proofs.Ytiocchmlmcoieaa
open Go.RowKit

section
variable {P : Program} {Q : Exit → Act → World → Prop}

/-- What an operation is: it reads, and gives this value, while at least lo and no more than k of the chain are done; or it is the k-th of the chain, and waits for the free one or not; or it is the free one, which may be done at any time (its value is counted behind the chain's). -/
inductive JobX where
  | quiet (v : Value) (lo k : Nat)
  | chain (k : Nat) (waits : Bool)
  | free (m : Nat)
def JobX.val (vals : Nat → Value) : JobX → Value
  | .quiet v _ _ => v
  | .chain k _ => vals k
  | .free m => vals m
/-- One operation's part. -/
def StepX (P : Program) (JC : Nat → Bool → World → (Nat → Value) → Prop) (Q : Exit → Act → World → Prop) (vals : Nat → Value) (o : Oper) (a : Act) : JobX → Prop
  | .quiet v lo kq => ∀ k, lo ≤ k → k ≤ kq → ∀ f w, JC k f w vals → o.wp P a w (fun a' w' => ∃ u, a' = a.put o.dst u ∧ (u = v ∧ w' = w)) (NoPanic Q)
  | .chain k wt => ∀ f w, (wt = true → f = true) → JC k f w vals → o.wp P a w (fun a' w' => ∃ u, a' = a.put o.dst u ∧ JC (k + 1) f w' (upd vals k u)) (NoPanic Q)
  | .free m => ∀ k w, JC k false w vals → o.wp P a w (fun a' w' => ∃ u, a' = a.put o.dst u ∧ JC k true w' (upd vals m u)) (NoPanic Q)
/-- What is asked of the operations, in the order of the text. -/
def SeqX (P : Program) (JC : Nat → Bool → World → (Nat → Value) → Prop) (Q : Exit → Act → World → Prop) (vals : Nat → Value) : List Oper → List JobX → Act → Prop
  | o :: l, j :: js, a => StepX P JC Q vals o a j ∧ SeqX P JC Q vals l js (a.put o.dst (j.val vals))
  | _, _, _ => True
theorem SeqX.get {JC : Nat → Bool → World → (Nat → Value) → Prop} {vals : Nat → Value} : ∀ (l : List Oper) (js : List JobX) (a : Act), SeqX P JC Q vals l js a → ∀ (i : Nat) (o : Oper) (j : JobX), l[i]? = some o → js[i]? = some j → StepX P JC Q vals o (putAll a (l.take i) ((js.take i).map (JobX.val vals))) j
  | [], _, _, _, i, o, j, h, _ => by simp at h
  | _ :: _, [], _, _, i, o, j, _, h => by simp at h
  | x :: l, y :: js, a, h, i, o, j, ho, hj => by
    obtain ⟨h1, h2⟩ := h
    cases i with
    | zero => simp at ho hj; subst ho; subst hj; exact h1
    | succ i => have := SeqX.get l js _ h2 i o j (by simpa using ho) (by simpa using hj); simpa [putAll] using this
def JobX.isChain (k : Nat) : JobX → Bool
  | .chain j _ => j == k
  | _ => false
def JobX.isFree : JobX → Bool
  | .free _ => true
  | _ => false
/-- The region's form besides fitsV2's: no guards; the chain is one: each waits for the one before, each number stands once; what a reader gives is taken by the one of the chain at its bound, and it waits for the one of the chain ahead of its first bound; one is free at most, and is waited for where that is said. -/
def fitsX (ops : List Oper) (js : List JobX) (m : Nat) : Bool :=
  decide (js.length = ops.length) && ops.all (fun o => o.guard.isNone) &&
  ((List.range m).all fun k => js.any (JobX.isChain k)) &&
  ((js.zipIdx.all fun x => match x.1 with
    | .chain k wt => decide (k < m) && (js.zipIdx.all fun y => !(JobX.isChain k y.1) || decide (y.2 = x.2)) && (k == 0 || ((ops[x.2]?).map fun o => o.after.any fun e => Region.binds .any e && ((js[e.on]?).map (JobX.isChain (k - 1))).getD false).getD false) && (!wt || ((ops[x.2]?).map fun o => o.after.any fun e => Region.binds .any e && ((js[e.on]?).map JobX.isFree).getD false).getD false)
    | .quiet _ lo kq => (js.zipIdx.all fun y => !(JobX.isChain kq y.1) || ((ops[y.2]?).map fun o => o.after.any fun e => Region.binds .any e && e.on == x.2).getD false) && (lo == 0 || ((ops[x.2]?).map fun o => o.after.any fun e => Region.binds .any e && ((js[e.on]?).map (JobX.isChain (lo - 1))).getD false).getD false)
    | .free n => decide (n = m) && (js.zipIdx.all fun y => !(JobX.isFree y.1) || decide (y.2 = x.2))))
/-- Between two operations. -/
structure GoingX (l : List Oper) (js : List JobX) (m : Nat) (JC : Nat → Bool → World → (Nat → Value) → Prop) (a0 : Act) (listed : Array Bool) (a : Act) (w : World) (k : Nat) (f : Bool) (vals : Nat → Value) : Prop where
  world : JC k f w vals
  le : k ≤ m
  chain : ∀ (i kk : Nat) (wt : Bool), js[i]? = some (.chain kk wt) → (listed.getD i false = true ↔ kk < k)
  free : ∀ (i n : Nat), js[i]? = some (.free n) → (listed.getD i false = true ↔ f = true)
  down : ∀ (u : Nat) (o : Oper), listed.getD u false = true → l[u]? = some o → ∀ e ∈ o.after, Region.binds .any e = true → listed.getD e.on false = true
  defers : a.defers = a0.defers
  size : a.tmps.size = a0.tmps.size
  others : ∀ s, (∀ (i : Nat) (o : Oper), l[i]? = some o → o.dst ≠ some s) → a.tmps.getD s undef = a0.tmps.getD s undef
  done : ∀ (i : Nat) (o : Oper) (d : Nat) (j : JobX), l[i]? = some o → listed.getD i false = true → o.dst = some d → js[i]? = some j → a.tmps.getD d undef = j.val vals
  still : ∀ (i : Nat) (o : Oper) (d : Nat), l[i]? = some o → listed.getD i false ≠ true → o.dst = some d → a.tmps.getD d undef = a0.tmps.getD d undef
theorem wp_region_free {l : List Oper} {js : List JobX} {m : Nat} {id : Nat} {a0 : Act} {w0 : World} (hm : P.follows .mixedOrders = true) (JC : Nat → Bool → World → (Nat → Value) → Prop) (hok : fitsV2 l a0.tmps.size = true) (hokw : fitsX l js m = true)
    (hJ : ∃ vals, JC 0 false w0.drew vals) (h : ∀ vals, SeqX P JC Q vals l js a0) (hfin : ∀ f w vals, (js.any JobX.isFree = true → f = true) → JC m f w vals → Q .normal (putAll a0 l (js.map (JobX.val vals))) w) : (Code.region id l.toArray true).wp P Q a0 w0 := by
  unfold fitsX at hokw
  simp only [Bool.and_eq_true, decide_eq_true_eq] at hokw
  obtain ⟨⟨⟨hjl, hg0⟩, hex⟩, hch⟩ := hokw
  have hguard : ∀ (i : Nat) (o : Oper), l[i]? = some o → o.guard = none := by
    intro i o ho
    rw [List.all_eq_true] at hg0
    have := hg0 o (List.mem_of_getElem? ho)
    simpa using this
  have hexk : ∀ k, k < m → ∃ i : Nat, ∃ wt, js[i]? = some (JobX.chain k wt) := by
    intro k hk
    rw [List.all_eq_true] at hex
    have := hex k (List.mem_range.2 hk)
    rw [List.any_eq_true] at this
    obtain ⟨j, hj, hc⟩ := this
    obtain ⟨i, hi⟩ := List.mem_iff_getElem?.1 hj
    cases j with
    | quiet v lo kq => simp [JobX.isChain] at hc
    | chain k' wt => simp [JobX.isChain] at hc; subst hc; exact ⟨i, wt, hi⟩
    | free n => simp [JobX.isChain] at hc
  have hone : ∀ (i j k : Nat) (wt wt' : Bool), js[i]? = some (.chain k wt) → js[j]? = some (.chain k wt') → j = i := by
    intro i j k wt wt' hi hj
    rw [List.all_eq_true] at hch
    have := hch (.chain k wt, i) (by rw [List.mem_zipIdx_iff_getElem?]; exact hi)
    simp only [Bool.and_eq_true, List.all_eq_true] at this
    have := this.1.1.2 (.chain k wt', j) (by rw [List.mem_zipIdx_iff_getElem?]; exact hj)
    simpa [JobX.isChain] using this
  have hlt : ∀ (i k : Nat) (wt : Bool), js[i]? = some (.chain k wt) → k < m := by
    intro i k wt hi
    rw [List.all_eq_true] at hch
    have := hch (.chain k wt, i) (by rw [List.mem_zipIdx_iff_getElem?]; exact hi)
    simp only [Bool.and_eq_true, decide_eq_true_eq] at this
    exact this.1.1.1
  have hprev0 : ∀ (k : Nat) (o : Oper), (o.after.any fun e => Region.binds .any e && ((js[e.on]?).map (JobX.isChain k)).getD false) = true → ∃ e ∈ o.after, Region.binds .any e = true ∧ ∃ wt, js[e.on]? = some (.chain k wt) := by
    intro k o h
    simp only [Array.any_eq_true, Bool.and_eq_true] at h
    obtain ⟨q, hq, hb, hc⟩ := h
    refine ⟨_, Array.getElem_mem hq, hb, ?_⟩
    rcases hjo : js[(o.after[q]).on]? with _ | j
    · rw [hjo] at hc; simp at hc
    · rw [hjo] at hc
      cases j with
      | quiet v lo kq => simp [JobX.isChain] at hc
      | chain k' wt => simp [JobX.isChain] at hc; subst hc; exact ⟨wt, rfl⟩
      | free n => simp [JobX.isChain] at hc
  have hprev : ∀ (i k : Nat) (wt : Bool) (o : Oper), js[i]? = some (.chain (k + 1) wt) → l[i]? = some o → ∃ e ∈ o.after, Region.binds .any e = true ∧ ∃ wt, js[e.on]? = some (.chain k wt) := by
    intro i k wt o hi ho
    rw [List.all_eq_true] at hch
    have := hch (.chain (k + 1) wt, i) (by rw [List.mem_zipIdx_iff_getElem?]; exact hi)
    simp only [Bool.and_eq_true, Nat.add_sub_cancel, ho, Option.map_some, Option.getD_some, Bool.or_eq_true] at this
    rcases this.1.2 with h0 | h0
    · simp at h0
    · exact hprev0 k o (by simpa using h0)
  have hfirst : ∀ (i lo kq : Nat) (v : Value) (o : Oper), js[i]? = some (.quiet v (lo + 1) kq) → l[i]? = some o → ∃ e ∈ o.after, Region.binds .any e = true ∧ ∃ wt, js[e.on]? = some (.chain lo wt) := by
    intro i lo kq v o hi ho
    rw [List.all_eq_true] at hch
    have := hch (.quiet v (lo + 1) kq, i) (by rw [List.mem_zipIdx_iff_getElem?]; exact hi)
    simp only [Bool.and_eq_true, Nat.add_sub_cancel, ho, Option.map_some, Option.getD_some, Bool.or_eq_true] at this
    rcases this.2 with h0 | h0
    · simp at h0
    · exact hprev0 lo o (by simpa using h0)
  have hwait : ∀ (i k : Nat) (o : Oper), js[i]? = some (.chain k true) → l[i]? = some o → ∃ e ∈ o.after, Region.binds .any e = true ∧ ∃ n, js[e.on]? = some (.free n) := by
    intro i k o hi ho
    rw [List.all_eq_true] at hch
    have := hch (.chain k true, i) (by rw [List.mem_zipIdx_iff_getElem?]; exact hi)
    simp only [Bool.and_eq_true, Bool.not_true, Bool.false_or, ho, Option.map_some, Option.getD_some, Array.any_eq_true] at this
    obtain ⟨q, hq, hb, hc⟩ := this.2
    refine ⟨_, Array.getElem_mem hq, hb, ?_⟩
    rcases hjo : js[(o.after[q]).on]? with _ | j
    · rw [hjo] at hc; simp at hc
    · rw [hjo] at hc
      cases j with
      | quiet v lo kq => simp [JobX.isFree] at hc
      | chain k' wt => simp [JobX.isFree] at hc
      | free n => exact ⟨n, rfl⟩
  have hfreeone : ∀ (i j n n' : Nat), js[i]? = some (.free n) → js[j]? = some (.free n') → j = i ∧ n = m ∧ n' = m := by
    intro i j n n' hi hj
    rw [List.all_eq_true] at hch
    have h1 := hch (.free n, i) (by rw [List.mem_zipIdx_iff_getElem?]; exact hi)
    have h2 := hch (.free n', j) (by rw [List.mem_zipIdx_iff_getElem?]; exact hj)
    simp only [Bool.and_eq_true, List.all_eq_true, decide_eq_true_eq] at h1 h2
    have := h1.2 (.free n', j) (by rw [List.mem_zipIdx_iff_getElem?]; exact hj)
    exact ⟨by simpa [JobX.isFree] using this, h1.1, h2.1⟩
  have htake : ∀ (i j lo kq : Nat) (v : Value) (wt : Bool) (o : Oper), js[i]? = some (.quiet v lo kq) → js[j]? = some (.chain kq wt) → l[j]? = some o → ∃ e ∈ o.after, Region.binds .any e = true ∧ e.on = i := by
    intro i j lo kq v wt o hi hj ho
    rw [List.all_eq_true] at hch
    have := hch (.quiet v lo kq, i) (by rw [List.mem_zipIdx_iff_getElem?]; exact hi)
    simp only [Bool.and_eq_true, List.all_eq_true] at this
    have := this.1 (.chain kq wt, j) (by rw [List.mem_zipIdx_iff_getElem?]; exact hj)
    simp only [JobX.isChain, beq_self_eq_true, Bool.not_true, Bool.false_or, ho, Option.map_some, Option.getD_some, Array.any_eq_true, Bool.and_eq_true] at this
    obtain ⟨q, hq, hb, hc⟩ := this
    exact ⟨_, Array.getElem_mem hq, hb, by simpa using hc⟩
  unfold fitsV2 at hok
  simp only [Bool.and_eq_true, decide_eq_true_eq] at hok
  obtain ⟨⟨⟨⟨h1, h2⟩, h3⟩, h4⟩, h5⟩ := hok
  have hsel : ∀ (i : Nat) (o : Oper), l[i]? = some o → ∀ cs b, o.op ≠ .select cs b := by
    intro i o ho cs b hb
    rw [List.all_eq_true] at h1
    have := h1 o (List.mem_of_getElem? ho)
    rw [hb] at this
    simp at this
  have hback : ∀ (i : Nat) (o : Oper), l[i]? = some o → ∀ e ∈ o.after, Region.binds .any e = true → e.on < i := by
    intro i o ho e he hbd
    rw [List.all_eq_true] at h2
    have := h2 (o, i) (by rw [List.mem_zipIdx_iff_getElem?]; exact ho)
    simp only [Array.all_eq_true] at this
    obtain ⟨k, hk, rfl⟩ := Array.getElem_of_mem he
    have := this k hk
    rw [hbd] at this
    simpa using this
  have hdst : ∀ (i j : Nat) (oi oj : Oper) (d : Nat), l[i]? = some oi → l[j]? = some oj → oi.dst = some d → oj.dst = some d → i = j := nodup_dst l h3
  have hsz : ∀ (i : Nat) (o : Oper) (d : Nat), l[i]? = some o → o.dst = some d → d < a0.tmps.size := by
    intro i o d ho hd
    rw [List.all_eq_true] at h4
    have := h4 o (List.mem_of_getElem? ho)
    rw [hd] at this
    simpa using this
  have hlook : ∀ (i j : Nat) (oi oj : Oper) (s : Nat), l[i]? = some oi → s ∈ oi.looksAt l.toArray → l[j]? = some oj → oj.dst = some s → (j < i ∧ ∃ e ∈ oi.after, e.on = j ∧ Region.binds .any e = true) ∨ (i < j ∧ ∃ e ∈ oj.after, e.on = i ∧ Region.binds .any e = true) := by
    intro i j oi oj s hi hs hj hd
    rw [List.all_eq_true] at h5
    have := h5 (oi, i) (by rw [List.mem_zipIdx_iff_getElem?]; exact hi)
    rw [List.all_eq_true] at this
    have := this s hs
    rw [List.all_eq_true] at this
    have := this (oj, j) (by rw [List.mem_zipIdx_iff_getElem?]; exact hj)
    simp only [hd, bne_self_eq_false, Bool.false_or, Bool.or_eq_true, Bool.and_eq_true, decide_eq_true_eq, Array.any_eq_true] at this
    rcases this with ⟨hlt, k, hk, he⟩ | ⟨hlt, k, hk, he⟩
    · exact .inl ⟨hlt, _, Array.getElem_mem hk, by simpa using he.1, he.2⟩
    · exact .inr ⟨hlt, _, Array.getElem_mem hk, by simpa using he.1, he.2⟩
  have hN : l.toArray.size = l.length := by simp
  have hjob : ∀ i, i < l.length → ∃ j : JobX, js[i]? = some j := fun i hi => ⟨_, List.getElem?_eq_getElem (by rw [hjl]; exact hi)⟩
  have key : ∀ (fuel : Nat) (listed : Array Bool) (a : Act) (w : World) (k : Nat) (f : Bool) (vals : Nat → Value), listed.size = l.toArray.size → ((List.range l.toArray.size).filter fun j => !listed.getD j true).length ≤ fuel → fuel ≤ l.toArray.size → GoingX l js m JC a0 listed a w k f vals →
      wpAny P .any l.toArray Q fuel listed a w := by
    have last : ∀ (listed : Array Bool) (a : Act) (w : World) (k : Nat) (f : Bool) (vals : Nat → Value), listed.size = l.toArray.size → Region.ready .any l.toArray listed = [] → GoingX l js m JC a0 listed a w k f vals → Q .normal a w := by
      intro listed a w k f vals hs hr hg
      have all : ∀ i, i < l.length → listed.getD i false = true := by
        intro i
        induction i using Nat.strongRecOn with
        | ind i ih =>
          intro hi
          rcases hb : listed.getD i false with _ | _
          · exfalso
            have hmem : i ∈ Region.ready .any l.toArray listed := by
              unfold Region.ready
              simp only [List.mem_filter, List.mem_range, Bool.and_eq_true]
              refine ⟨by rw [hN]; exact hi, ?_, ?_⟩
              · have : listed.getD i true = listed.getD i false := by
                  simp [Array.getD_eq_getD_getElem?, Array.getElem?_eq_getElem (show i < listed.size by omega)]
                rw [this, hb]; rfl
              · have hlo : l.toArray[i]? = some l[i] := by simp [hi]
                rw [hlo]
                simp only [Option.map_some, Option.getD_some, Array.all_eq_true]
                intro j hj
                rcases hbd : Region.binds .any (l[i].after[j]) with _ | _
                · simp
                · have hlt := hback i l[i] (List.getElem?_eq_getElem hi) (l[i].after[j]) (Array.getElem_mem hj) hbd
                  have := ih _ hlt (by omega)
                  simp [this]
            rw [hr] at hmem; simp at hmem
          · rfl
      have hkm : k = m := by
        rcases Nat.lt_or_ge k m with h1 | h1
        · obtain ⟨i, wt, hi⟩ := hexk k h1
          have hil : i < l.length := by
            rcases Nat.lt_or_ge i js.length with h | h
            · rw [← hjl]; exact h
            · rw [List.getElem?_eq_none h] at hi; cases hi
          have := (hg.chain i k wt hi).1 (all i hil)
          omega
        · exact Nat.le_antisymm hg.le h1
      have e : a = putAll a0 l (js.map (JobX.val vals)) := by
        have et : a.tmps = (putAll a0 l (js.map (JobX.val vals))).tmps := by
          apply Array.ext
          · rw [hg.size, putAll_size]
          · intro s hs1 hs2
            have : a.tmps.getD s undef = (putAll a0 l (js.map (JobX.val vals))).tmps.getD s undef := by
              by_cases hx : ∃ (i : Nat) (o : Oper), l[i]? = some o ∧ o.dst = some s
              · obtain ⟨i, o, ho, hd⟩ := hx
                have hil : i < l.length := by
                  rcases Nat.lt_or_ge i l.length with h | h
                  · exact h
                  · rw [List.getElem?_eq_none h] at ho; cases ho
                obtain ⟨j, hj⟩ := hjob i hil
                rw [hg.done i o s j ho (all i hil) hd hj, putAll_at l _ a0 s i o (j.val vals) ho hd (by rw [List.getElem?_map, hj]; rfl) (hsz i o s ho hd) (fun k' o' hk hd' => hdst k' i o' o s hk ho hd' hd)]
              · have hx' : ∀ (i : Nat) (o : Oper), l[i]? = some o → o.dst ≠ some s := fun i o ho hd => hx ⟨i, o, ho, hd⟩
                rw [hg.others s hx', putAll_other l _ a0 s hx']
            simpa [Array.getD_eq_getD_getElem?, hs1, hs2] using this
        have ed : a.defers = (putAll a0 l (js.map (JobX.val vals))).defers := by rw [hg.defers, putAll_defers]
        cases a; cases hp : putAll a0 l (js.map (JobX.val vals))
        rw [hp] at et ed
        simp only at et ed
        rw [et, ed]
      rw [e]
      refine hfin f w vals (fun hany => ?_) (hkm ▸ hg.world)
      rw [List.any_eq_true] at hany
      obtain ⟨j, hjm, hjf⟩ := hany
      obtain ⟨i, hi⟩ := List.mem_iff_getElem?.1 hjm
      cases j with
      | quiet v lo kq => simp [JobX.isFree] at hjf
      | chain k' wt => simp [JobX.isFree] at hjf
      | free n =>
        have hil : i < l.length := by
          rcases Nat.lt_or_ge i js.length with h | h
          · rw [← hjl]; exact h
          · rw [List.getElem?_eq_none h] at hi; cases hi
        exact (hg.free i n hi).1 (all i hil)
    intro fuel
    induction fuel with
    | zero =>
      intro listed a w k f vals hs hn hfu hg
      have hr : Region.ready .any l.toArray listed = [] := by
        have h0 : ((List.range l.toArray.size).filter fun j => !listed.getD j true) = [] := List.eq_nil_of_length_eq_zero (by omega)
        unfold Region.ready
        rw [List.filter_eq_nil_iff] at h0 ⊢
        intro j hj hc
        exact h0 j hj (by simp only [Bool.and_eq_true] at hc; exact hc.1)
      exact ⟨hr, last listed a w k f vals hs hr hg⟩
    | succ fuel ih =>
      intro listed a w k f vals hs hn hfu hg
      refine ⟨fun hr => last listed a w k f vals hs hr hg, fun i hi => ?_⟩
      unfold Region.ready at hi
      simp only [List.mem_filter, List.mem_range, Bool.and_eq_true] at hi
      obtain ⟨hlt0, hu, haf⟩ := hi
      have hlt' : i < l.length := by rw [← hN]; exact hlt0
      have ho : l.toArray[i]? = some l[i] := by simp [hlt']
      have hol : l[i]? = some l[i] := List.getElem?_eq_getElem hlt'
      have hu' : listed.getD i true = false := by simpa using hu
      have hfi : listed.getD i false ≠ true := by
        intro h
        have : listed.getD i true = listed.getD i false := by
          simp [Array.getD_eq_getD_getElem?, Array.getElem?_eq_getElem (show i < listed.size by omega)]
        rw [hu', h] at this; cases this
      have hpre : ∀ e ∈ l[i].after, Region.binds .any e = true → listed.getD e.on false = true := by
        intro e he hbind
        rw [ho] at haf
        simp only [Option.map_some, Option.getD_some, Array.all_eq_true] at haf
        obtain ⟨q, hq, rfl⟩ := Array.getElem_of_mem he
        have := haf q hq
        simpa [hbind] using this
      obtain ⟨job, hj⟩ := hjob i hlt'
      have hst := SeqX.get l js a0 (h vals) i l[i] job hol hj
      obtain ⟨A, hA⟩ : ∃ A, putAll a0 (l.take i) ((js.take i).map (JobX.val vals)) = A := ⟨_, rfl⟩
      rw [hA] at hst
      have hAs : A.tmps.size = a0.tmps.size := by rw [← hA, putAll_size]
      have look : ∀ s ∈ l[i].looksAt l.toArray, A.tmps.getD s undef = a.tmps.getD s undef := by
        intro s hsl
        by_cases hx : ∃ (j : Nat) (o : Oper), l[j]? = some o ∧ o.dst = some s
        · obtain ⟨j, o, hj2, hd⟩ := hx
          rcases hlook i j l[i] o s hol hsl hj2 hd with ⟨hji, e, he, hej, heb⟩ | ⟨hij, e, he, hei, heb⟩
          · obtain ⟨jj, hjj⟩ := hjob j (by omega)
            have hls := hpre e he heb
            rw [hej] at hls
            rw [hg.done j o s jj hj2 hls hd hjj, ← hA]
            refine putAll_at _ _ a0 s j o _ (by rw [List.getElem?_take_of_lt hji]; exact hj2) hd (by rw [List.getElem?_map, List.getElem?_take_of_lt hji, hjj]; rfl) (hsz j o s hj2 hd) (fun k' o' hk hd' => ?_)
            rw [List.getElem?_take] at hk
            split at hk
            · exact hdst k' j o' o s hk hj2 hd' hd
            · cases hk
          · have hjn : listed.getD j false ≠ true := fun h => by
              have := hg.down j o h hj2 e he heb
              rw [hei] at this
              exact hfi this
            rw [hg.still j o s hj2 hjn hd, ← hA]
            refine putAll_other _ _ a0 s (fun k' o' hk hd' => ?_)
            rw [List.getElem?_take] at hk
            split at hk
            · have := hdst k' j o' o s hk hj2 hd' hd; omega
            · cases hk
        · have hx' : ∀ (i : Nat) (o : Oper), l[i]? = some o → o.dst ≠ some s := fun i o ho hd => hx ⟨i, o, ho, hd⟩
          rw [hg.others s hx', ← hA, putAll_other _ _ a0 s (fun k' o' hk => by
            rw [List.getElem?_take] at hk
            split at hk
            · exact hx' k' o' hk
            · cases hk)]
      have hexec : execOp A.eval l[i] = execOp a.eval l[i] := by
        refine execOp_congr l[i] (hsel i l[i] hol) fun x hx => ?_
        cases x with
        | tmp t =>
          refine look t ?_
          unfold Oper.looksAt
          exact List.mem_append_left _ (List.mem_filterMap.2 ⟨.tmp t, by simpa using hx, rfl⟩)
        | _ => rfl
      have hset : ∀ u, (listed.setIfInBounds i true).getD u false = true ↔ u = i ∨ listed.getD u false = true := by
        intro u
        by_cases hui : i = u
        · subst hui
          simp [Array.getD_eq_getD_getElem?, hs, hlt']
        · have hne : ¬ u = i := fun e => hui e.symm
          simp [Array.getD_eq_getD_getElem?, hui, hne]
      have go : ∀ (w' : World) (u : Value) (k' : Nat) (f' : Bool) (vals' : Nat → Value), JC k' f' w' vals' → k' ≤ m → (∀ (i' kk : Nat) (wt : Bool), js[i']? = some (.chain kk wt) → ((listed.setIfInBounds i true).getD i' false = true ↔ kk < k')) → (∀ (i' n : Nat), js[i']? = some (.free n) → ((listed.setIfInBounds i true).getD i' false = true ↔ f' = true)) →
          (∀ (i' : Nat) (j' : JobX), js[i']? = some j' → listed.getD i' false = true → j'.val vals' = j'.val vals) → job.val vals' = u → wpAny P .any l.toArray Q fuel (listed.setIfInBounds i true) (a.put l[i].dst u) w' := fun w' u k' f' vals' hw' hk' hc' hf' hv' hu2 => by
        refine ih _ _ _ k' f' vals' (by simp [hs]) (open_less hlt0 hs hu' hn) (by omega) ⟨hw', hk', hc', hf', ?_, by rw [put_defers', hg.defers], by rw [put_size, hg.size], fun s hs' => ?_, fun j oj d jj hjl' hlj hd hjj => ?_, fun j oj d hjl' hlj hd => ?_⟩
        · intro v o hv hov e he hbd
          rw [hset] at hv ⊢
          rcases hv with rfl | hv
          · rw [hol] at hov; injection hov with hov; subst hov
            exact .inr (hpre e he hbd)
          · exact .inr (hg.down v o hv hov e he hbd)
        · rw [put_ne a u (hs' i l[i] hol), hg.others s hs']
        · by_cases hji : i = j
          · subst hji
            rw [hol] at hjl'; injection hjl' with hjl'
            rw [← hjl'] at hd
            rw [hj] at hjj; injection hjj with hjj
            rw [hd, ← hjj, hu2]
            exact put_eq a u (by rw [hg.size]; exact hsz i _ d hol hd)
          · have hl' : listed.getD j false = true := by
              simpa [Array.getD_eq_getD_getElem?, Array.getElem?_setIfInBounds, hji] using hlj
            rw [put_ne a u (fun e => hji (hdst i j _ _ d hol hjl' e hd)), hg.done j oj d jj hjl' hl' hd hjj]
            exact (hv' j jj hjj hl').symm
        · have hji : i ≠ j := fun e => hlj (by rw [hset]; exact .inl e.symm)
          rw [put_ne a u (fun e => hji (hdst i j _ _ d hol hjl' e hd))]
          exact hg.still j oj d hjl' (fun h => hlj (by rw [hset]; exact .inr h)) hd
      unfold wpOp
      rw [ho]
      have hw : Region.wanted l[i] (yielded l.toArray a.tmps) = true := by
        unfold Region.wanted; rw [hguard i _ hol]
      simp only [hw, if_true]
      cases job with
      | quiet v lo kq =>
        have hkq : k ≤ kq := by
          rcases Nat.lt_or_ge kq k with h1 | h1
          · exfalso
            obtain ⟨j, wt, hjc⟩ := hexk kq (Nat.lt_of_lt_of_le h1 hg.le)
            have hjl2 : j < l.length := by
              rcases Nat.lt_or_ge j js.length with h | h
              · rw [← hjl]; exact h
              · rw [List.getElem?_eq_none h] at hjc; cases hjc
            obtain ⟨e, he, hb, hei⟩ := htake i j lo kq v wt l[j] hj hjc (List.getElem?_eq_getElem hjl2)
            have := hg.down j l[j] ((hg.chain j kq wt hjc).2 h1) (List.getElem?_eq_getElem hjl2) e he hb
            rw [hei] at this
            exact hfi this
          · exact h1
        have hlo : lo ≤ k := by
          rcases Nat.eq_zero_or_pos lo with h0 | h0
          · omega
          · obtain ⟨lp, rfl⟩ : ∃ lp, lo = lp + 1 := ⟨lo - 1, by omega⟩
            obtain ⟨e, he, hb, wt, hep⟩ := hfirst i lp kq v l[i] hj hol
            have := (hg.chain e.on lp wt hep).1 (hpre e he hb)
            omega
        refine .inl (Oper.wp_mono ?_ (wp_other' hexec (by rw [hg.size, hAs]) (hst k hlo hkq f w hg.world)))
        rintro a' w' ⟨u, rfl, rfl, rfl⟩
        refine go _ _ k f vals hg.world hg.le (fun i' kk wt hi' => ?_) (fun i' n hi' => ?_) (fun _ _ _ _ => rfl) rfl
        · rw [hset, ← hg.chain i' kk wt hi']
          constructor
          · rintro (rfl | h1)
            · rw [hj] at hi'; cases hi'
            · exact h1
          · exact .inr
        · rw [hset, ← hg.free i' n hi']
          constructor
          · rintro (rfl | h1)
            · rw [hj] at hi'; cases hi'
            · exact h1
          · exact .inr
      | chain kk wt =>
        have hkk : kk = k := by
          have h1 : ¬ kk < k := fun h1 => hfi ((hg.chain i kk wt hj).2 h1)
          rcases Nat.lt_or_ge k kk with h2 | h2
          · exfalso
            obtain ⟨kp, rfl⟩ : ∃ kp, kk = kp + 1 := ⟨kk - 1, by omega⟩
            obtain ⟨e, he, hb, wt', hep⟩ := hprev i kp wt l[i] hj hol
            have := (hg.chain e.on kp wt' hep).1 (hpre e he hb)
            omega
          · omega
        subst hkk
        have hwt : wt = true → f = true := fun hw => by
          subst hw
          obtain ⟨e, he, hb, n, hen⟩ := hwait i kk l[i] hj hol
          exact (hg.free e.on n hen).1 (hpre e he hb)
        have hkm' : kk < m := hlt i kk wt hj
        refine .inl (Oper.wp_mono ?_ (wp_other' hexec (by rw [hg.size, hAs]) (hst f w hwt hg.world)))
        rintro a' w' ⟨u, rfl, hjc⟩
        refine go _ u (kk + 1) f (upd vals kk u) hjc hkm' (fun i' kk' wt' hi' => ?_) (fun i' n hi' => ?_) (fun i' j' hi' hl' => ?_) (by simp [JobX.val, upd])
        · rw [hset, hg.chain i' kk' wt' hi']
          constructor
          · rintro (rfl | h1)
            · rw [hj] at hi'; injection hi' with hi'; injection hi' with hi'; omega
            · omega
          · intro h1
            rcases Nat.lt_or_ge kk' kk with h2 | h2
            · exact .inr h2
            · have : kk' = kk := by omega
              subst this
              exact .inl (hone i i' kk' wt wt' hj hi')
        · rw [hset, ← hg.free i' n hi']
          constructor
          · rintro (rfl | h1)
            · rw [hj] at hi'; cases hi'
            · exact h1
          · exact .inr
        · cases j' with
          | quiet v lo kq => rfl
          | chain k2 wt2 =>
            have := (hg.chain i' k2 wt2 hi').1 hl'
            simp [JobX.val, upd, show k2 ≠ kk by omega]
          | free n =>
            have := (hfreeone i' i' n n hi' hi').2.1
            simp [JobX.val, upd, show n ≠ kk by omega]
      | free n =>
        have hnm : n = m := (hfreeone i i n n hj hj).2.1
        subst hnm
        have hff : f = false := by
          cases hf : f with
          | false => rfl
          | true => exact absurd ((hg.free i n hj).2 hf) hfi
        subst hff
        refine .inl (Oper.wp_mono ?_ (wp_other' hexec (by rw [hg.size, hAs]) (hst k w hg.world)))
        rintro a' w' ⟨u, rfl, hjc⟩
        refine go _ u k true (upd vals n u) hjc hg.le (fun i' kk' wt' hi' => ?_) (fun i' n' hi' => ?_) (fun i' j' hi' hl' => ?_) (by simp [JobX.val, upd])
        · rw [hset, hg.chain i' kk' wt' hi']
          constructor
          · rintro (rfl | h1)
            · rw [hj] at hi'; cases hi'
            · exact h1
          · exact .inr
        · rw [hset]
          exact ⟨fun _ => rfl, fun _ => .inl (hfreeone i i' n n' hj hi').1⟩
        · cases j' with
          | quiet v lo kq => rfl
          | chain k2 wt2 =>
            have := hlt i' k2 wt2 hi'
            simp [JobX.val, upd, show k2 ≠ n by omega]
          | free n' =>
            exfalso
            have := (hg.free i' n' hi').1 hl'
            cases this
  obtain ⟨vals0, hJ0⟩ := hJ
  refine wp_region_any hm (key l.toArray.size _ a0 w0.drew 0 false vals0 (by simp) ?_ (Nat.le_refl _) ⟨hJ0, Nat.zero_le _, fun i kk _ _ => ?_, fun i n _ => ?_, fun u o hl => ?_, rfl, rfl, fun _ _ => rfl, fun i o d v ho hl _ _ => ?_, fun _ _ _ _ _ _ => rfl⟩)
  · exact Nat.le_trans (List.length_filter_le _ _) (by simp)
  · constructor
    · intro hl
      exfalso
      by_cases hu : i < l.length <;> simp [Array.getD_eq_getD_getElem?, hu] at hl
    · intro h; omega
  · constructor
    · intro hl
      exfalso
      by_cases hu : i < l.length <;> simp [Array.getD_eq_getD_getElem?, hu] at hl
    · intro h; cases h
  · exfalso
    by_cases hu : u < l.length <;> simp [Array.getD_eq_getD_getElem?, hu] at hl
  · exfalso
    by_cases hu : i < l.length <;> simp [Array.getD_eq_getD_getElem?, hu] at hl
end

end Go.Proofs.Ytiocchmlmcoieaa

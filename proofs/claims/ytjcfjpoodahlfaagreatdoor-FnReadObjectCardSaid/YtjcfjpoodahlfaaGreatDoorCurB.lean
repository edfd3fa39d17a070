import Derived.Test.YtjcfjpoodahlfaaGreatDoorRead7B
namespace Go.Proofs.YtjcfjpoodahlfaaGreatDoor
open Go.RowKit
section
variable {P : Program} {Q : Exit → Act → World → Prop}
inductive JobX where
  | quiet (v : Value) (lo k : Nat)
  | chain (k : Nat) (waits : Bool)
  | free (m : Nat)
def JobX.val (vals : Nat → Value) : JobX → Value
  | .quiet v _ _ => v
  | .chain k _ => vals k
  | .free m => vals m
def StepX (P : Program) (JC : Nat → Bool → World → (Nat → Value) → Prop) (Q : Exit → Act → World → Prop) (vals : Nat → Value) (o : Oper) (a : Act) : JobX → Prop
  | .quiet v lo kq => ∀ k, lo ≤ k → k ≤ kq → ∀ f w, JC k f w vals → o.wp P a w (fun a' w' => ∃ u, a' = a.put o.dst u ∧ (u = v ∧ w' = w)) (NoPanic Q)
  | .chain k wt => ∀ f w, (wt = true → f = true) → JC k f w vals → o.wp P a w (fun a' w' => ∃ u, a' = a.put o.dst u ∧ JC (k + 1) f w' (upd vals k u)) (NoPanic Q)
  | .free m => ∀ k w, JC k false w vals → o.wp P a w (fun a' w' => ∃ u, a' = a.put o.dst u ∧ JC k true w' (upd vals m u)) (NoPanic Q)
def SeqX (P : Program) (JC : Nat → Bool → World → (Nat → Value) → Prop) (Q : Exit → Act → World → Prop) (vals : Nat → Value) : List Oper → List JobX → Act → Prop
  | o :: l, j :: js, a => StepX P JC Q vals o a j ∧ SeqX P JC Q vals l js (a.put o.dst (j.val vals))
  | _, _, _ => True
theorem SeqX.get {JC : Nat → Bool → World → (Nat → Value) → Prop} {vals : Nat → Value} : ∀ (l : List Oper) (js : List JobX) (a : Act), SeqX P JC Q vals l js a → ∀ (i : Nat) (o : Oper) (j : JobX), l[i]? = some o → js[i]? = some j → StepX P JC Q vals o (putAll a (l.take i) ((js.take i).map (JobX.val vals))) j
  | [], _, _, _, i, o, j, h, _ => by simp at h
  | _ :: _, [], _, _, i, o, j, _, h => by simp at h
  | x :: l, y :: js, a, h, i, o, j, ho, hj => by
    obtain ⟨h1, h2⟩ := h
    cases i with
    | zero => simp at ho hj; subst ho; subst hj; exact h1
    | succ i => have := SeqX.get l js _ h2 i o j (by simpa using ho) (by simpa using hj); simpa [putAll] using this
def JobX.isChain (k : Nat) : JobX → Bool
  | .chain j _ => j == k
  | _ => false
def JobX.isFree : JobX → Bool
  | .free _ => true
  | _ => false
def fitsX (ops : List Oper) (js : List JobX) (m : Nat) : Bool :=
  decide (js.length = ops.length) && ops.all (fun o => o.guard.isNone) &&
  ((List.range m).all fun k => js.any (JobX.isChain k)) &&
  ((js.zipIdx.all fun x => match x.1 with
    | .chain k wt => decide (k < m) && (js.zipIdx.all fun y => !(JobX.isChain k y.1) || decide (y.2 = x.2)) && (k == 0 || ((ops[x.2]?).map fun o => o.after.any fun e => Region.binds .any e && ((js[e.on]?).map (JobX.isChain (k - 1))).getD false).getD false) && (!wt || ((ops[x.2]?).map fun o => o.after.any fun e => Region.binds .any e && ((js[e.on]?).map JobX.isFree).getD false).getD false)
    | .quiet _ lo kq => (js.zipIdx.all fun y => !(JobX.isChain kq y.1) || ((ops[y.2]?).map fun o => o.after.any fun e => Region.binds .any e && e.on == x.2).getD false) && (lo == 0 || ((ops[x.2]?).map fun o => o.after.any fun e => Region.binds .any e && ((js[e.on]?).map (JobX.isChain (lo - 1))).getD false).getD false)
    | .free n => decide (n = m) && (js.zipIdx.all fun y => !(JobX.isFree y.1) || decide (y.2 = x.2))))
structure GoingX (l : List Oper) (js : List JobX) (m : Nat) (JC : Nat → Bool → World → (Nat → Value) → Prop) (a0 : Act) (listed : Array Bool) (a : Act) (w : World) (k : Nat) (f : Bool) (vals : Nat → Value) : Prop where
  world : JC k f w vals
  le : k ≤ m
  chain : ∀ (i kk : Nat) (wt : Bool), js[i]? = some (.chain kk wt) → (listed.getD i false = true ↔ kk < k)
  free : ∀ (i n : Nat), js[i]? = some (.free n) → (listed.getD i false = true ↔ f = true)
  down : ∀ (u : Nat) (o : Oper), listed.getD u false = true → l[u]? = some o → ∀ e ∈ o.after, Region.binds .any e = true → listed.getD e.on false = true
  defers : a.defers = a0.defers
  size : a.tmps.size = a0.tmps.size
  others : ∀ s, (∀ (i : Nat) (o : Oper), l[i]? = some o → o.dst ≠ some s) → a.tmps.getD s undef = a0.tmps.getD s undef
  done : ∀ (i : Nat) (o : Oper) (d : Nat) (j : JobX), l[i]? = some o → listed.getD i false = true → o.dst = some d → js[i]? = some j → a.tmps.getD d undef = j.val vals
  still : ∀ (i : Nat) (o : Oper) (d : Nat), l[i]? = some o → listed.getD i false ≠ true → o.dst = some d → a.tmps.getD d undef = a0.tmps.getD d undef
theorem wp_region_free {l : List Oper} {js : List JobX} {m : Nat} {id : Nat} {a0 : Act} {w0 : World} (hm : P.follows .mixedOrders = true) (JC : Nat → Bool → World → (Nat → Value) → Prop) (hok : fitsV2 l a0.tmps.size = true) (hokw : fitsX l js m = true)
    (hJ : ∃ vals, JC 0 false w0.drew vals) (h : ∀ vals, SeqX P JC Q vals l js a0) (hfin : ∀ f w vals, (js.any JobX.isFree = true → f = true) → JC m f w vals → Q .normal (putAll a0 l (js.map (JobX.val vals))) w) : (Code.region id l.toArray true).wp P Q a0 w0 := by
  unfold fitsX at hokw
  simp only [Bool.and_eq_true, decide_eq_true_eq] at hokw
  obtain ⟨⟨⟨hjl, hg0⟩, hex⟩, hch⟩ := hokw
  have hguard : ∀ (i : Nat) (o : Oper), l[i]? = some o → o.guard = none := by
    intro i o ho
    rw [List.all_eq_true] at hg0
    have := hg0 o (List.mem_of_getElem? ho)
    simpa using this
  have hexk : ∀ k, k < m → ∃ i : Nat, ∃ wt, js[i]? = some (JobX.chain k wt) := by
    intro k hk
    rw [List.all_eq_true] at hex
    have := hex k (List.mem_range.2 hk)
    rw [List.any_eq_true] at this
    obtain ⟨j, hj, hc⟩ := this
    obtain ⟨i, hi⟩ := List.mem_iff_getElem?.1 hj
    cases j with
    | quiet v lo kq => simp [JobX.isChain] at hc
    | chain k' wt => simp [JobX.isChain] at hc; subst hc; exact ⟨i, wt, hi⟩
    | free n => simp [JobX.isChain] at hc
  have hone : ∀ (i j k : Nat) (wt wt' : Bool), js[i]? = some (.chain k wt) → js[j]? = some (.chain k wt') → j = i := by
    intro i j k wt wt' hi hj
    rw [List.all_eq_true] at hch
    have := hch (.chain k wt, i) (by rw [List.mem_zipIdx_iff_getElem?]; exact hi)
    simp only [Bool.and_eq_true, List.all_eq_true] at this
    have := this.1.1.2 (.chain k wt', j) (by rw [List.mem_zipIdx_iff_getElem?]; exact hj)
    simpa [JobX.isChain] using this
  have hlt : ∀ (i k : Nat) (wt : Bool), js[i]? = some (.chain k wt) → k < m := by
    intro i k wt hi
    rw [List.all_eq_true] at hch
    have := hch (.chain k wt, i) (by rw [List.mem_zipIdx_iff_getElem?]; exact hi)
    simp only [Bool.and_eq_true, decide_eq_true_eq] at this
    exact this.1.1.1
  have hprev0 : ∀ (k : Nat) (o : Oper), (o.after.any fun e => Region.binds .any e && ((js[e.on]?).map (JobX.isChain k)).getD false) = true → ∃ e ∈ o.after, Region.binds .any e = true ∧ ∃ wt, js[e.on]? = some (.chain k wt) := by
    intro k o h
    simp only [Array.any_eq_true, Bool.and_eq_true] at h
    obtain ⟨q, hq, hb, hc⟩ := h
    refine ⟨_, Array.getElem_mem hq, hb, ?_⟩
    rcases hjo : js[(o.after[q]).on]? with _ | j
    · rw [hjo] at hc; simp at hc
    · rw [hjo] at hc
      cases j with
      | quiet v lo kq => simp [JobX.isChain] at hc
      | chain k' wt => simp [JobX.isChain] at hc; subst hc; exact ⟨wt, rfl⟩
      | free n => simp [JobX.isChain] at hc
  have hprev : ∀ (i k : Nat) (wt : Bool) (o : Oper), js[i]? = some (.chain (k + 1) wt) → l[i]? = some o → ∃ e ∈ o.after, Region.binds .any e = true ∧ ∃ wt, js[e.on]? = some (.chain k wt) := by
    intro i k wt o hi ho
    rw [List.all_eq_true] at hch
    have := hch (.chain (k + 1) wt, i) (by rw [List.mem_zipIdx_iff_getElem?]; exact hi)
    simp only [Bool.and_eq_true, Nat.add_sub_cancel, ho, Option.map_some, Option.getD_some, Bool.or_eq_true] at this
    rcases this.1.2 with h0 | h0
    · simp at h0
    · exact hprev0 k o (by simpa using h0)
  have hfirst : ∀ (i lo kq : Nat) (v : Value) (o : Oper), js[i]? = some (.quiet v (lo + 1) kq) → l[i]? = some o → ∃ e ∈ o.after, Region.binds .any e = true ∧ ∃ wt, js[e.on]? = some (.chain lo wt) := by
    intro i lo kq v o hi ho
    rw [List.all_eq_true] at hch
    have := hch (.quiet v (lo + 1) kq, i) (by rw [List.mem_zipIdx_iff_getElem?]; exact hi)
    simp only [Bool.and_eq_true, Nat.add_sub_cancel, ho, Option.map_some, Option.getD_some, Bool.or_eq_true] at this
    rcases this.2 with h0 | h0
    · simp at h0
    · exact hprev0 lo o (by simpa using h0)
  have hwait : ∀ (i k : Nat) (o : Oper), js[i]? = some (.chain k true) → l[i]? = some o → ∃ e ∈ o.after, Region.binds .any e = true ∧ ∃ n, js[e.on]? = some (.free n) := by
    intro i k o hi ho
    rw [List.all_eq_true] at hch
    have := hch (.chain k true, i) (by rw [List.mem_zipIdx_iff_getElem?]; exact hi)
    simp only [Bool.and_eq_true, Bool.not_true, Bool.false_or, ho, Option.map_some, Option.getD_some, Array.any_eq_true] at this
    obtain ⟨q, hq, hb, hc⟩ := this.2
    refine ⟨_, Array.getElem_mem hq, hb, ?_⟩
    rcases hjo : js[(o.after[q]).on]? with _ | j
    · rw [hjo] at hc; simp at hc
    · rw [hjo] at hc
      cases j with
      | quiet v lo kq => simp [JobX.isFree] at hc
      | chain k' wt => simp [JobX.isFree] at hc
      | free n => exact ⟨n, rfl⟩
  have hfreeone : ∀ (i j n n' : Nat), js[i]? = some (.free n) → js[j]? = some (.free n') → j = i ∧ n = m ∧ n' = m := by
    intro i j n n' hi hj
    rw [List.all_eq_true] at hch
    have h1 := hch (.free n, i) (by rw [List.mem_zipIdx_iff_getElem?]; exact hi)
    have h2 := hch (.free n', j) (by rw [List.mem_zipIdx_iff_getElem?]; exact hj)
    simp only [Bool.and_eq_true, List.all_eq_true, decide_eq_true_eq] at h1 h2
    have := h1.2 (.free n', j) (by rw [List.mem_zipIdx_iff_getElem?]; exact hj)
    exact ⟨by simpa [JobX.isFree] using this, h1.1, h2.1⟩
  have htake : ∀ (i j lo kq : Nat) (v : Value) (wt : Bool) (o : Oper), js[i]? = some (.quiet v lo kq) → js[j]? = some (.chain kq wt) → l[j]? = some o → ∃ e ∈ o.after, Region.binds .any e = true ∧ e.on = i := by
    intro i j lo kq v wt o hi hj ho
    rw [List.all_eq_true] at hch
    have := hch (.quiet v lo kq, i) (by rw [List.mem_zipIdx_iff_getElem?]; exact hi)
    simp only [Bool.and_eq_true, List.all_eq_true] at this
    have := this.1 (.chain kq wt, j) (by rw [List.mem_zipIdx_iff_getElem?]; exact hj)
    simp only [JobX.isChain, beq_self_eq_true, Bool.not_true, Bool.false_or, ho, Option.map_some, Option.getD_some, Array.any_eq_true, Bool.and_eq_true] at this
    obtain ⟨q, hq, hb, hc⟩ := this
    exact ⟨_, Array.getElem_mem hq, hb, by simpa using hc⟩
  unfold fitsV2 at hok
  simp only [Bool.and_eq_true, decide_eq_true_eq] at hok
  obtain ⟨⟨⟨⟨h1, h2⟩, h3⟩, h4⟩, h5⟩ := hok
  have hsel : ∀ (i : Nat) (o : Oper), l[i]? = some o → ∀ cs b, o.op ≠ .select cs b := by
    intro i o ho cs b hb
    rw [List.all_eq_true] at h1
    have := h1 o (List.mem_of_getElem? ho)
    rw [hb] at this
    simp at this
  have hback : ∀ (i : Nat) (o : Oper), l[i]? = some o → ∀ e ∈ o.after, Region.binds .any e = true → e.on < i := by
    intro i o ho e he hbd
    rw [List.all_eq_true] at h2
    have := h2 (o, i) (by rw [List.mem_zipIdx_iff_getElem?]; exact ho)
    simp only [Array.all_eq_true] at this
    obtain ⟨k, hk, rfl⟩ := Array.getElem_of_mem he
    have := this k hk
    rw [hbd] at this
    simpa using this
  have hdst : ∀ (i j : Nat) (oi oj : Oper) (d : Nat), l[i]? = some oi → l[j]? = some oj → oi.dst = some d → oj.dst = some d → i = j := nodup_dst l h3
  have hsz : ∀ (i : Nat) (o : Oper) (d : Nat), l[i]? = some o → o.dst = some d → d < a0.tmps.size := by
    intro i o d ho hd
    rw [List.all_eq_true] at h4
    have := h4 o (List.mem_of_getElem? ho)
    rw [hd] at this
    simpa using this
  have hlook : ∀ (i j : Nat) (oi oj : Oper) (s : Nat), l[i]? = some oi → s ∈ oi.looksAt l.toArray → l[j]? = some oj → oj.dst = some s → (j < i ∧ ∃ e ∈ oi.after, e.on = j ∧ Region.binds .any e = true) ∨ (i < j ∧ ∃ e ∈ oj.after, e.on = i ∧ Region.binds .any e = true) := by
    intro i j oi oj s hi hs hj hd
    rw [List.all_eq_true] at h5
    have := h5 (oi, i) (by rw [List.mem_zipIdx_iff_getElem?]; exact hi)
    rw [List.all_eq_true] at this
    have := this s hs
    rw [List.all_eq_true] at this
    have := this (oj, j) (by rw [List.mem_zipIdx_iff_getElem?]; exact hj)
    simp only [hd, bne_self_eq_false, Bool.false_or, Bool.or_eq_true, Bool.and_eq_true, decide_eq_true_eq, Array.any_eq_true] at this
    rcases this with ⟨hlt, k, hk, he⟩ | ⟨hlt, k, hk, he⟩
    · exact .inl ⟨hlt, _, Array.getElem_mem hk, by simpa using he.1, he.2⟩
    · exact .inr ⟨hlt, _, Array.getElem_mem hk, by simpa using he.1, he.2⟩
  have hN : l.toArray.size = l.length := by simp
  have hjob : ∀ i, i < l.length → ∃ j : JobX, js[i]? = some j := fun i hi => ⟨_, List.getElem?_eq_getElem (by rw [hjl]; exact hi)⟩
  have key : ∀ (fuel : Nat) (listed : Array Bool) (a : Act) (w : World) (k : Nat) (f : Bool) (vals : Nat → Value), listed.size = l.toArray.size → ((List.range l.toArray.size).filter fun j => !listed.getD j true).length ≤ fuel → fuel ≤ l.toArray.size → GoingX l js m JC a0 listed a w k f vals →
      wpAny P .any l.toArray Q fuel listed a w := by
    have last : ∀ (listed : Array Bool) (a : Act) (w : World) (k : Nat) (f : Bool) (vals : Nat → Value), listed.size = l.toArray.size → Region.ready .any l.toArray listed = [] → GoingX l js m JC a0 listed a w k f vals → Q .normal a w := by
      intro listed a w k f vals hs hr hg
      have all : ∀ i, i < l.length → listed.getD i false = true := by
        intro i
        induction i using Nat.strongRecOn with
        | ind i ih =>
          intro hi
          rcases hb : listed.getD i false with _ | _
          · exfalso
            have hmem : i ∈ Region.ready .any l.toArray listed := by
              unfold Region.ready
              simp only [List.mem_filter, List.mem_range, Bool.and_eq_true]
              refine ⟨by rw [hN]; exact hi, ?_, ?_⟩
              · have : listed.getD i true = listed.getD i false := by
                  simp [Array.getD_eq_getD_getElem?, Array.getElem?_eq_getElem (show i < listed.size by omega)]
                rw [this, hb]; rfl
              · have hlo : l.toArray[i]? = some l[i] := by simp [hi]
                rw [hlo]
                simp only [Option.map_some, Option.getD_some, Array.all_eq_true]
                intro j hj
                rcases hbd : Region.binds .any (l[i].after[j]) with _ | _
                · simp
                · have hlt := hback i l[i] (List.getElem?_eq_getElem hi) (l[i].after[j]) (Array.getElem_mem hj) hbd
                  have := ih _ hlt (by omega)
                  simp [this]
            rw [hr] at hmem; simp at hmem
          · rfl
      have hkm : k = m := by
        rcases Nat.lt_or_ge k m with h1 | h1
        · obtain ⟨i, wt, hi⟩ := hexk k h1
          have hil : i < l.length := by
            rcases Nat.lt_or_ge i js.length with h | h
            · rw [← hjl]; exact h
            · rw [List.getElem?_eq_none h] at hi; cases hi
          have := (hg.chain i k wt hi).1 (all i hil)
          omega
        · exact Nat.le_antisymm hg.le h1
      have e : a = putAll a0 l (js.map (JobX.val vals)) := by
        have et : a.tmps = (putAll a0 l (js.map (JobX.val vals))).tmps := by
          apply Array.ext
          · rw [hg.size, putAll_size]
          · intro s hs1 hs2
            have : a.tmps.getD s undef = (putAll a0 l (js.map (JobX.val vals))).tmps.getD s undef := by
              by_cases hx : ∃ (i : Nat) (o : Oper), l[i]? = some o ∧ o.dst = some s
              · obtain ⟨i, o, ho, hd⟩ := hx
                have hil : i < l.length := by
                  rcases Nat.lt_or_ge i l.length with h | h
                  · exact h
                  · rw [List.getElem?_eq_none h] at ho; cases ho
                obtain ⟨j, hj⟩ := hjob i hil
                rw [hg.done i o s j ho (all i hil) hd hj, putAll_at l _ a0 s i o (j.val vals) ho hd (by rw [List.getElem?_map, hj]; rfl) (hsz i o s ho hd) (fun k' o' hk hd' => hdst k' i o' o s hk ho hd' hd)]
              · have hx' : ∀ (i : Nat) (o : Oper), l[i]? = some o → o.dst ≠ some s := fun i o ho hd => hx ⟨i, o, ho, hd⟩
                rw [hg.others s hx', putAll_other l _ a0 s hx']
            simpa [Array.getD_eq_getD_getElem?, hs1, hs2] using this
        have ed : a.defers = (putAll a0 l (js.map (JobX.val vals))).defers := by rw [hg.defers, putAll_defers]
        cases a; cases hp : putAll a0 l (js.map (JobX.val vals))
        rw [hp] at et ed
        simp only at et ed
        rw [et, ed]
      rw [e]
      refine hfin f w vals (fun hany => ?_) (hkm ▸ hg.world)
      rw [List.any_eq_true] at hany
      obtain ⟨j, hjm, hjf⟩ := hany
      obtain ⟨i, hi⟩ := List.mem_iff_getElem?.1 hjm
      cases j with
      | quiet v lo kq => simp [JobX.isFree] at hjf
      | chain k' wt => simp [JobX.isFree] at hjf
      | free n =>
        have hil : i < l.length := by
          rcases Nat.lt_or_ge i js.length with h | h
          · rw [← hjl]; exact h
          · rw [List.getElem?_eq_none h] at hi; cases hi
        exact (hg.free i n hi).1 (all i hil)
    intro fuel
    induction fuel with
    | zero =>
      intro listed a w k f vals hs hn hfu hg
      have hr : Region.ready .any l.toArray listed = [] := by
        have h0 : ((List.range l.toArray.size).filter fun j => !listed.getD j true) = [] := List.eq_nil_of_length_eq_zero (by omega)
        unfold Region.ready
        rw [List.filter_eq_nil_iff] at h0 ⊢
        intro j hj hc
        exact h0 j hj (by simp only [Bool.and_eq_true] at hc; exact hc.1)
      exact ⟨hr, last listed a w k f vals hs hr hg⟩
    | succ fuel ih =>
      intro listed a w k f vals hs hn hfu hg
      refine ⟨fun hr => last listed a w k f vals hs hr hg, fun i hi => ?_⟩
      unfold Region.ready at hi
      simp only [List.mem_filter, List.mem_range, Bool.and_eq_true] at hi
      obtain ⟨hlt0, hu, haf⟩ := hi
      have hlt' : i < l.length := by rw [← hN]; exact hlt0
      have ho : l.toArray[i]? = some l[i] := by simp [hlt']
      have hol : l[i]? = some l[i] := List.getElem?_eq_getElem hlt'
      have hu' : listed.getD i true = false := by simpa using hu
      have hfi : listed.getD i false ≠ true := by
        intro h
        have : listed.getD i true = listed.getD i false := by
          simp [Array.getD_eq_getD_getElem?, Array.getElem?_eq_getElem (show i < listed.size by omega)]
        rw [hu', h] at this; cases this
      have hpre : ∀ e ∈ l[i].after, Region.binds .any e = true → listed.getD e.on false = true := by
        intro e he hbind
        rw [ho] at haf
        simp only [Option.map_some, Option.getD_some, Array.all_eq_true] at haf
        obtain ⟨q, hq, rfl⟩ := Array.getElem_of_mem he
        have := haf q hq
        simpa [hbind] using this
      obtain ⟨job, hj⟩ := hjob i hlt'
      have hst := SeqX.get l js a0 (h vals) i l[i] job hol hj
      obtain ⟨A, hA⟩ : ∃ A, putAll a0 (l.take i) ((js.take i).map (JobX.val vals)) = A := ⟨_, rfl⟩
      rw [hA] at hst
      have hAs : A.tmps.size = a0.tmps.size := by rw [← hA, putAll_size]
      have look : ∀ s ∈ l[i].looksAt l.toArray, A.tmps.getD s undef = a.tmps.getD s undef := by
        intro s hsl
        by_cases hx : ∃ (j : Nat) (o : Oper), l[j]? = some o ∧ o.dst = some s
        · obtain ⟨j, o, hj2, hd⟩ := hx
          rcases hlook i j l[i] o s hol hsl hj2 hd with ⟨hji, e, he, hej, heb⟩ | ⟨hij, e, he, hei, heb⟩
          · obtain ⟨jj, hjj⟩ := hjob j (by omega)
            have hls := hpre e he heb
            rw [hej] at hls
            rw [hg.done j o s jj hj2 hls hd hjj, ← hA]
            refine putAll_at _ _ a0 s j o _ (by rw [List.getElem?_take_of_lt hji]; exact hj2) hd (by rw [List.getElem?_map, List.getElem?_take_of_lt hji, hjj]; rfl) (hsz j o s hj2 hd) (fun k' o' hk hd' => ?_)
            rw [List.getElem?_take] at hk
            split at hk
            · exact hdst k' j o' o s hk hj2 hd' hd
            · cases hk
          · have hjn : listed.getD j false ≠ true := fun h => by
              have := hg.down j o h hj2 e he heb
              rw [hei] at this
              exact hfi this
            rw [hg.still j o s hj2 hjn hd, ← hA]
            refine putAll_other _ _ a0 s (fun k' o' hk hd' => ?_)
            rw [List.getElem?_take] at hk
            split at hk
            · have := hdst k' j o' o s hk hj2 hd' hd; omega
            · cases hk
        · have hx' : ∀ (i : Nat) (o : Oper), l[i]? = some o → o.dst ≠ some s := fun i o ho hd => hx ⟨i, o, ho, hd⟩
          rw [hg.others s hx', ← hA, putAll_other _ _ a0 s (fun k' o' hk => by
            rw [List.getElem?_take] at hk
            split at hk
            · exact hx' k' o' hk
            · cases hk)]
      have hexec : execOp A.eval l[i] = execOp a.eval l[i] := by
        refine execOp_congr l[i] (hsel i l[i] hol) fun x hx => ?_
        cases x with
        | tmp t =>
          refine look t ?_
          unfold Oper.looksAt
          exact List.mem_append_left _ (List.mem_filterMap.2 ⟨.tmp t, by simpa using hx, rfl⟩)
        | _ => rfl
      have hset : ∀ u, (listed.setIfInBounds i true).getD u false = true ↔ u = i ∨ listed.getD u false = true := by
        intro u
        by_cases hui : i = u
        · subst hui
          simp [Array.getD_eq_getD_getElem?, hs, hlt']
        · have hne : ¬ u = i := fun e => hui e.symm
          simp [Array.getD_eq_getD_getElem?, hui, hne]
      have go : ∀ (w' : World) (u : Value) (k' : Nat) (f' : Bool) (vals' : Nat → Value), JC k' f' w' vals' → k' ≤ m → (∀ (i' kk : Nat) (wt : Bool), js[i']? = some (.chain kk wt) → ((listed.setIfInBounds i true).getD i' false = true ↔ kk < k')) → (∀ (i' n : Nat), js[i']? = some (.free n) → ((listed.setIfInBounds i true).getD i' false = true ↔ f' = true)) →
          (∀ (i' : Nat) (j' : JobX), js[i']? = some j' → listed.getD i' false = true → j'.val vals' = j'.val vals) → job.val vals' = u → wpAny P .any l.toArray Q fuel (listed.setIfInBounds i true) (a.put l[i].dst u) w' := fun w' u k' f' vals' hw' hk' hc' hf' hv' hu2 => by
        refine ih _ _ _ k' f' vals' (by simp [hs]) (open_less hlt0 hs hu' hn) (by omega) ⟨hw', hk', hc', hf', ?_, by rw [put_defers', hg.defers], by rw [put_size, hg.size], fun s hs' => ?_, fun j oj d jj hjl' hlj hd hjj => ?_, fun j oj d hjl' hlj hd => ?_⟩
        · intro v o hv hov e he hbd
          rw [hset] at hv ⊢
          rcases hv with rfl | hv
          · rw [hol] at hov; injection hov with hov; subst hov
            exact .inr (hpre e he hbd)
          · exact .inr (hg.down v o hv hov e he hbd)
        · rw [put_ne a u (hs' i l[i] hol), hg.others s hs']
        · by_cases hji : i = j
          · subst hji
            rw [hol] at hjl'; injection hjl' with hjl'
            rw [← hjl'] at hd
            rw [hj] at hjj; injection hjj with hjj
            rw [hd, ← hjj, hu2]
            exact put_eq a u (by rw [hg.size]; exact hsz i _ d hol hd)
          · have hl' : listed.getD j false = true := by
              simpa [Array.getD_eq_getD_getElem?, Array.getElem?_setIfInBounds, hji] using hlj
            rw [put_ne a u (fun e => hji (hdst i j _ _ d hol hjl' e hd)), hg.done j oj d jj hjl' hl' hd hjj]
            exact (hv' j jj hjj hl').symm
        · have hji : i ≠ j := fun e => hlj (by rw [hset]; exact .inl e.symm)
          rw [put_ne a u (fun e => hji (hdst i j _ _ d hol hjl' e hd))]
          exact hg.still j oj d hjl' (fun h => hlj (by rw [hset]; exact .inr h)) hd
      unfold wpOp
      rw [ho]
      have hw : Region.wanted l[i] (yielded l.toArray a.tmps) = true := by
        unfold Region.wanted; rw [hguard i _ hol]
      simp only [hw, if_true]
      cases job with
      | quiet v lo kq =>
        have hkq : k ≤ kq := by
          rcases Nat.lt_or_ge kq k with h1 | h1
          · exfalso
            obtain ⟨j, wt, hjc⟩ := hexk kq (Nat.lt_of_lt_of_le h1 hg.le)
            have hjl2 : j < l.length := by
              rcases Nat.lt_or_ge j js.length with h | h
              · rw [← hjl]; exact h
              · rw [List.getElem?_eq_none h] at hjc; cases hjc
            obtain ⟨e, he, hb, hei⟩ := htake i j lo kq v wt l[j] hj hjc (List.getElem?_eq_getElem hjl2)
            have := hg.down j l[j] ((hg.chain j kq wt hjc).2 h1) (List.getElem?_eq_getElem hjl2) e he hb
            rw [hei] at this
            exact hfi this
          · exact h1
        have hlo : lo ≤ k := by
          rcases Nat.eq_zero_or_pos lo with h0 | h0
          · omega
          · obtain ⟨lp, rfl⟩ : ∃ lp, lo = lp + 1 := ⟨lo - 1, by omega⟩
            obtain ⟨e, he, hb, wt, hep⟩ := hfirst i lp kq v l[i] hj hol
            have := (hg.chain e.on lp wt hep).1 (hpre e he hb)
            omega
        refine .inl (Oper.wp_mono ?_ (wp_other' hexec (by rw [hg.size, hAs]) (hst k hlo hkq f w hg.world)))
        rintro a' w' ⟨u, rfl, rfl, rfl⟩
        refine go _ _ k f vals hg.world hg.le (fun i' kk wt hi' => ?_) (fun i' n hi' => ?_) (fun _ _ _ _ => rfl) rfl
        · rw [hset, ← hg.chain i' kk wt hi']
          constructor
          · rintro (rfl | h1)
            · rw [hj] at hi'; cases hi'
            · exact h1
          · exact .inr
        · rw [hset, ← hg.free i' n hi']
          constructor
          · rintro (rfl | h1)
            · rw [hj] at hi'; cases hi'
            · exact h1
          · exact .inr
      | chain kk wt =>
        have hkk : kk = k := by
          have h1 : ¬ kk < k := fun h1 => hfi ((hg.chain i kk wt hj).2 h1)
          rcases Nat.lt_or_ge k kk with h2 | h2
          · exfalso
            obtain ⟨kp, rfl⟩ : ∃ kp, kk = kp + 1 := ⟨kk - 1, by omega⟩
            obtain ⟨e, he, hb, wt', hep⟩ := hprev i kp wt l[i] hj hol
            have := (hg.chain e.on kp wt' hep).1 (hpre e he hb)
            omega
          · omega
        subst hkk
        have hwt : wt = true → f = true := fun hw => by
          subst hw
          obtain ⟨e, he, hb, n, hen⟩ := hwait i kk l[i] hj hol
          exact (hg.free e.on n hen).1 (hpre e he hb)
        have hkm' : kk < m := hlt i kk wt hj
        refine .inl (Oper.wp_mono ?_ (wp_other' hexec (by rw [hg.size, hAs]) (hst f w hwt hg.world)))
        rintro a' w' ⟨u, rfl, hjc⟩
        refine go _ u (kk + 1) f (upd vals kk u) hjc hkm' (fun i' kk' wt' hi' => ?_) (fun i' n hi' => ?_) (fun i' j' hi' hl' => ?_) (by simp [JobX.val, upd])
        · rw [hset, hg.chain i' kk' wt' hi']
          constructor
          · rintro (rfl | h1)
            · rw [hj] at hi'; injection hi' with hi'; injection hi' with hi'; omega
            · omega
          · intro h1
            rcases Nat.lt_or_ge kk' kk with h2 | h2
            · exact .inr h2
            · have : kk' = kk := by omega
              subst this
              exact .inl (hone i i' kk' wt wt' hj hi')
        · rw [hset, ← hg.free i' n hi']
          constructor
          · rintro (rfl | h1)
            · rw [hj] at hi'; cases hi'
            · exact h1
          · exact .inr
        · cases j' with
          | quiet v lo kq => rfl
          | chain k2 wt2 =>
            have := (hg.chain i' k2 wt2 hi').1 hl'
            simp [JobX.val, upd, show k2 ≠ kk by omega]
          | free n =>
            have := (hfreeone i' i' n n hi' hi').2.1
            simp [JobX.val, upd, show n ≠ kk by omega]
      | free n =>
        have hnm : n = m := (hfreeone i i n n hj hj).2.1
        subst hnm
        have hff : f = false := by
          cases hf : f with
          | false => rfl
          | true => exact absurd ((hg.free i n hj).2 hf) hfi
        subst hff
        refine .inl (Oper.wp_mono ?_ (wp_other' hexec (by rw [hg.size, hAs]) (hst k w hg.world)))
        rintro a' w' ⟨u, rfl, hjc⟩
        refine go _ u k true (upd vals n u) hjc hg.le (fun i' kk' wt' hi' => ?_) (fun i' n' hi' => ?_) (fun i' j' hi' hl' => ?_) (by simp [JobX.val, upd])
        · rw [hset, hg.chain i' kk' wt' hi']
          constructor
          · rintro (rfl | h1)
            · rw [hj] at hi'; cases hi'
            · exact h1
          · exact .inr
        · rw [hset]
          exact ⟨fun _ => rfl, fun _ => .inl (hfreeone i i' n n' hj hi').1⟩
        · cases j' with
          | quiet v lo kq => rfl
          | chain k2 wt2 =>
            have := hlt i' k2 wt2 hi'
            simp [JobX.val, upd, show k2 ≠ n by omega]
          | free n' =>
            exfalso
            have := (hg.free i' n' hi').1 hl'
            cases this
  obtain ⟨vals0, hJ0⟩ := hJ
  refine wp_region_any hm (key l.toArray.size _ a0 w0.drew 0 false vals0 (by simp) ?_ (Nat.le_refl _) ⟨hJ0, Nat.zero_le _, fun i kk _ _ => ?_, fun i n _ => ?_, fun u o hl => ?_, rfl, rfl, fun _ _ => rfl, fun i o d v ho hl _ _ => ?_, fun _ _ _ _ _ _ => rfl⟩)
  · exact Nat.le_trans (List.length_filter_le _ _) (by simp)
  · constructor
    · intro hl
      exfalso
      by_cases hu : i < l.length <;> simp [Array.getD_eq_getD_getElem?, hu] at hl
    · intro h; omega
  · constructor
    · intro hl
      exfalso
      by_cases hu : i < l.length <;> simp [Array.getD_eq_getD_getElem?, hu] at hl
    · intro h; cases h
  · exfalso
    by_cases hu : u < l.length <;> simp [Array.getD_eq_getD_getElem?, hu] at hl
  · exfalso
    by_cases hu : i < l.length <;> simp [Array.getD_eq_getD_getElem?, hu] at hl
end
open Go.RowKit
structure Cu where
  left : List Int
  bad : Bool
def Cu.cut (c : Cu) (k : Nat) : List Int := if k ≤ c.left.length then c.left.take k else []
def Cu.past (c : Cu) (k : Nat) : Cu := if k ≤ c.left.length then ⟨c.left.drop k, c.bad⟩ else ⟨[], true⟩
def Cu.num (c : Cu) (k : Nat) : Int := max 0 (getVal (c.cut k) 0 k)
def Cu.name (c : Cu) (t : List Int) : ByteArray := nameOf t (c.num 2)
def Cu.named (c : Cu) (t : List Int) : Cu := if (textAt t (c.num 2)).isSome then c.past 2 else ⟨[], true⟩
def fixAt (c : Cu) : Fx := ⟨c.num 1, (c.past 1).num 1, ((c.past 1).past 1).num 1, (((c.past 1).past 1).past 1).num 2 - 1000⟩
def fixPast (c : Cu) : Cu := (((c.past 1).past 1).past 1).past 2
def fixP (c : Cu) : Nat → Cu
  | 0 => c
  | j + 1 => fixPast (fixP c j)
def fixL (c : Cu) : Nat → List Fx
  | 0 => []
  | j + 1 => fixL c j ++ [fixAt (fixP c j)]
theorem fixL_length (c : Cu) : ∀ j, (fixL c j).length = j
  | 0 => rfl
  | j + 1 => by rw [fixL, List.length_append, fixL_length c j]; rfl
structure C3 where
  s : Cu
  f : Cu
  b : Cu
def C3.k1 (S : C3) (t : List Int) : Cu := S.s.named t
def C3.kind (S : C3) (t : List Int) : Int := (S.k1 t).num 1
def C3.align (S : C3) (t : List Int) : Int := ((S.k1 t).past 1).num 1
def C3.size (S : C3) (t : List Int) : Int := (((S.k1 t).past 1).past 1).num 1
def C3.k4 (S : C3) (t : List Int) : Cu := (((S.k1 t).past 1).past 1).past 1
def C3.many (S : C3) (t : List Int) : Nat := ((S.k4 t).num 1).toNat
def C3.bytes (S : C3) (t : List Int) : List Int := if S.kind t = 3 then [] else S.b.cut (S.size t).toNat
def secAt (t : List Int) (S : C3) : Sx := ⟨S.s.name t, S.kind t, S.align t, S.bytes t, if S.kind t = 3 then S.size t else 0, fixL S.f (S.many t)⟩
def secPast (t : List Int) (S : C3) : C3 := ⟨(S.k4 t).past 1, fixP S.f (S.many t), if S.kind t = 3 then S.b else S.b.past (S.size t).toNat⟩
def secP (t : List Int) (S : C3) : Nat → C3
  | 0 => S
  | j + 1 => secPast t (secP t S j)
def secL (t : List Int) (S : C3) : Nat → List Sx
  | 0 => []
  | j + 1 => secL t S j ++ [secAt t (secP t S j)]
def symAt (t : List Int) (c : Cu) : Sm := ⟨c.name t, (c.named t).num 1, ((c.named t).past 1).num 1 - 2, (((c.named t).past 1).past 1).num 2⟩
def symPast (t : List Int) (c : Cu) : Cu := (((c.named t).past 1).past 1).past 2
def symP (t : List Int) (c : Cu) : Nat → Cu
  | 0 => c
  | j + 1 => symPast t (symP t c j)
def symL (t : List Int) (c : Cu) : Nat → List Sm
  | 0 => []
  | j + 1 => symL t c j ++ [symAt t (symP t c j)]
theorem Cu.num_nonneg (c : Cu) (k : Nat) : 0 ≤ c.num k := by unfold Cu.num; omega
theorem cut_wf {c : Cu} (h : ∀ x ∈ c.left, (Lit.int .u8 x).wf = true) (k : Nat) : ∀ x ∈ c.cut k, (Lit.int .u8 x).wf = true := fun x hx => by
  unfold Cu.cut at hx
  split at hx
  · exact h x (List.mem_of_mem_take hx)
  · cases hx
theorem past_wf {c : Cu} (h : ∀ x ∈ c.left, (Lit.int .u8 x).wf = true) (k : Nat) : ∀ x ∈ (c.past k).left, (Lit.int .u8 x).wf = true := fun x hx => by
  unfold Cu.past at hx
  split at hx
  · exact h x (List.mem_of_mem_drop hx)
  · cases hx
theorem named_wf {c : Cu} (h : ∀ x ∈ c.left, (Lit.int .u8 x).wf = true) (t : List Int) : ∀ x ∈ (c.named t).left, (Lit.int .u8 x).wf = true := fun x hx => by
  unfold Cu.named at hx
  split at hx
  · exact past_wf h 2 x hx
  · cases hx
theorem Cu.num1_le {c : Cu} (h : ∀ x ∈ c.left, (Lit.int .u8 x).wf = true) : c.num 1 ≤ 255 := by
  have hw := cut_wf h 1
  unfold Cu.num getVal
  split
  · omega
  · split
    · omega
    · split
      · omega
      · rename_i h1 h2 h3
        unfold leAt
        rw [if_pos (by decide)]
        have hi : 0 < (c.cut 1).length := by omega
        have := wf_u8.mp (hw ((c.cut 1).getD 0 0) (by rw [List.getD_eq_getElem?_getD, List.getElem?_eq_getElem hi]; exact List.getElem_mem _))
        show max 0 ((c.cut 1).getD 0 0) ≤ 255
        omega
theorem Cu.num2_le {c : Cu} (h : ∀ x ∈ c.left, (Lit.int .u8 x).wf = true) : c.num 2 ≤ 65535 := by
  have hw := cut_wf h 2
  unfold Cu.num getVal
  split
  · omega
  · split
    · omega
    · split
      · omega
      · rename_i h1 h2 h3
        unfold leAt
        rw [if_neg (by decide), if_pos (by decide)]
        have hi : 1 < (c.cut 2).length := by omega
        have a1 := wf_u8.mp (hw ((c.cut 2).getD 0 0) (by rw [List.getD_eq_getElem?_getD, List.getElem?_eq_getElem (by omega)]; exact List.getElem_mem _))
        have a2 := wf_u8.mp (hw ((c.cut 2).getD 1 0) (by rw [List.getD_eq_getElem?_getD, List.getElem?_eq_getElem hi]; exact List.getElem_mem _))
        show max 0 ((c.cut 2).getD 0 0 + 256 * (c.cut 2).getD 1 0) ≤ 65535
        omega
theorem fixPast_wf {c : Cu} (h : ∀ x ∈ c.left, (Lit.int .u8 x).wf = true) : ∀ x ∈ (fixPast c).left, (Lit.int .u8 x).wf = true := past_wf (past_wf (past_wf (past_wf h 1) 1) 1) 2
theorem fixP_wf {c : Cu} (h : ∀ x ∈ c.left, (Lit.int .u8 x).wf = true) : ∀ j, ∀ x ∈ (fixP c j).left, (Lit.int .u8 x).wf = true
  | 0 => h
  | j + 1 => fixPast_wf (fixP_wf h j)
theorem fixAt_small {c : Cu} (h : ∀ x ∈ c.left, (Lit.int .u8 x).wf = true) : I64 (fixAt c).pl ∧ I64 (fixAt c).kind ∧ I64 (fixAt c).to ∧ I64 (fixAt c).add := by
  have h1 := past_wf h 1
  have h2 := past_wf h1 1
  have h3 := past_wf h2 1
  have a1 := c.num_nonneg 1
  have a2 := (c.past 1).num_nonneg 1
  have a3 := ((c.past 1).past 1).num_nonneg 1
  have a4 := (((c.past 1).past 1).past 1).num_nonneg 2
  have b1 := Cu.num1_le h
  have b2 := Cu.num1_le h1
  have b3 := Cu.num1_le h2
  have b4 := Cu.num2_le h3
  unfold fixAt
  exact ⟨⟨by simp only; omega, by simp only; omega⟩, ⟨by simp only; omega, by simp only; omega⟩, ⟨by simp only; omega, by simp only; omega⟩, ⟨by simp only; omega, by simp only; omega⟩⟩
theorem fixL_small {c : Cu} (h : ∀ x ∈ c.left, (Lit.int .u8 x).wf = true) : ∀ j, ∀ f ∈ fixL c j, I64 f.pl ∧ I64 f.kind ∧ I64 f.to ∧ I64 f.add
  | 0, f, hf => by cases hf
  | j + 1, f, hf => by
    rw [fixL] at hf
    rcases List.mem_append.1 hf with h' | h'
    · exact fixL_small h j f h'
    · rw [List.mem_singleton.1 h']; exact fixAt_small (fixP_wf h j)
structure C3.wf (S : C3) : Prop where
  s : ∀ x ∈ S.s.left, (Lit.int .u8 x).wf = true
  f : ∀ x ∈ S.f.left, (Lit.int .u8 x).wf = true
  b : ∀ x ∈ S.b.left, (Lit.int .u8 x).wf = true
theorem C3.wf.past {S : C3} (h : S.wf) (t : List Int) : (secPast t S).wf :=
  ⟨past_wf (past_wf (past_wf (past_wf (named_wf h.s t) 1) 1) 1) 1, fixP_wf h.f _, by
    unfold secPast
    simp only
    split
    · exact h.b
    · exact past_wf h.b _⟩
theorem secP_wf {S : C3} (h : S.wf) (t : List Int) : ∀ j, (secP t S j).wf
  | 0 => h
  | j + 1 => (secP_wf h t j).past t
theorem symP_wf {c : Cu} (h : ∀ x ∈ c.left, (Lit.int .u8 x).wf = true) (t : List Int) : ∀ j, ∀ x ∈ (symP t c j).left, (Lit.int .u8 x).wf = true
  | 0 => h
  | j + 1 => past_wf (past_wf (past_wf (named_wf (symP_wf h t j) t) 1) 1) 2
theorem bytes_wf {S : C3} (h : S.wf) (t : List Int) : ∀ x ∈ S.bytes t, (Lit.int .u8 x).wf = true := fun x hx => by
  unfold C3.bytes at hx
  split at hx
  · cases hx
  · exact cut_wf h.b _ x hx
theorem cut_length (c : Cu) (k : Nat) : (c.cut k).length ≤ k := by
  unfold Cu.cut
  split
  · rw [List.length_take]; omega
  · simp
theorem sec_nums {S : C3} (h : S.wf) (t : List Int) : (0 ≤ S.kind t ∧ S.kind t ≤ 255) ∧ (0 ≤ S.align t ∧ S.align t ≤ 255) ∧ (0 ≤ S.size t ∧ S.size t ≤ 255) ∧ S.many t ≤ 255 ∧ (S.bytes t).length ≤ 255 := by
  have h1 := named_wf h.s t
  have h2 := past_wf h1 1
  have h3 := past_wf h2 1
  have h4 := past_wf h3 1
  have b3 : S.size t ≤ 255 := by unfold C3.size C3.k1; exact Cu.num1_le h3
  have b4 : ((S.k4 t).num 1) ≤ 255 := by unfold C3.k4 C3.k1; exact Cu.num1_le h4
  refine ⟨⟨?_, ?_⟩, ⟨?_, ?_⟩, ⟨?_, b3⟩, ?_, ?_⟩
  · unfold C3.kind; exact Cu.num_nonneg _ 1
  · unfold C3.kind C3.k1; exact Cu.num1_le h1
  · unfold C3.align; exact Cu.num_nonneg _ 1
  · unfold C3.align C3.k1; exact Cu.num1_le h2
  · unfold C3.size; exact Cu.num_nonneg _ 1
  · unfold C3.many; omega
  · unfold C3.bytes
    split
    · simp
    · have := cut_length S.b (S.size t).toNat
      omega
theorem secAt_fits {S : C3} (h : S.wf) {t : List Int} (hn : (S.s.name t).size ≤ maxLen) : (secAt t S).fits := by
  obtain ⟨⟨a1, b1⟩, ⟨a2, b2⟩, ⟨a3, b3⟩, hm, hl⟩ := sec_nums h t
  have hf := fixL_small h.f (S.many t)
  have hc := fixL_length S.f (S.many t)
  unfold secAt
  generalize S.kind t = x1 at *
  generalize S.align t = x2 at *
  generalize S.size t = x3 at *
  generalize S.bytes t = x4 at *
  generalize fixL S.f (S.many t) = x5 at *
  generalize S.s.name t = x6 at *
  generalize S.many t = x7 at *
  refine ⟨hn, ⟨by simp only; omega, by simp only; omega⟩, ⟨by simp only; omega, by simp only; omega⟩, ?_, by simp only; omega, by simp only; omega, hf⟩
  simp only
  split
  · exact ⟨by omega, by omega⟩
  · exact ⟨by omega, by omega⟩
theorem symAt_fits {c : Cu} (h : ∀ x ∈ c.left, (Lit.int .u8 x).wf = true) {t : List Int} (hn : (c.name t).size ≤ maxLen) : (symAt t c).fits := by
  have h1 := named_wf h t
  have h2 := past_wf h1 1
  have h3 := past_wf h2 1
  have a1 := (c.named t).num_nonneg 1
  have a2 := ((c.named t).past 1).num_nonneg 1
  have a3 := (((c.named t).past 1).past 1).num_nonneg 2
  have b1 := Cu.num1_le h1
  have b2 := Cu.num1_le h2
  have b3 := Cu.num2_le h3
  unfold symAt
  exact ⟨hn, ⟨by simp only; omega, by simp only; omega⟩, ⟨by simp only; omega, by simp only; omega⟩, ⟨by simp only; omega, by simp only; omega⟩⟩
structure C5 where
  s : Cu
  m : Cu
  f : Cu
  b : Cu
  t : List Int
def C5.three (S : C5) : C3 := ⟨S.s, S.f, S.b⟩
def cursC (r : List Int) (h : Hd) : C5 :=
  ⟨⟨(⟨r, false⟩ : Cu).cut (6 * h.sec).toNat, false⟩, ⟨((⟨r, false⟩ : Cu).past (6 * h.sec).toNat).cut (6 * h.sym).toNat, false⟩, ⟨(((⟨r, false⟩ : Cu).past (6 * h.sec).toNat).past (6 * h.sym).toNat).cut (5 * h.fix).toNat, false⟩,
    ((((⟨r, false⟩ : Cu).past (6 * h.sec).toNat).past (6 * h.sym).toNat).past (5 * h.fix).toNat).past h.nam.toNat, ((((⟨r, false⟩ : Cu).past (6 * h.sec).toNat).past (6 * h.sym).toNat).past (5 * h.fix).toNat).cut h.nam.toNat⟩
theorem cut_app (p q : List Int) (z : Bool) (k : Nat) (hk : k = p.length) : (⟨p ++ q, z⟩ : Cu).cut k = p := by
  unfold Cu.cut
  rw [if_pos (by simp only [List.length_append]; omega), hk]
  exact List.take_left
theorem past_app (p q : List Int) (z : Bool) (k : Nat) (hk : k = p.length) : (⟨p ++ q, z⟩ : Cu).past k = ⟨q, z⟩ := by
  unfold Cu.past
  rw [if_pos (by simp only [List.length_append]; omega), hk]
  simp only [List.drop_left]
theorem num1_app (x : Int) (q : List Int) (z : Bool) (hx : 0 ≤ x) : (⟨x :: q, z⟩ : Cu).num 1 = x := by
  unfold Cu.num
  rw [show x :: q = [x] ++ q from rfl, cut_app [x] q z 1 rfl]
  show max 0 (getVal ([x]) 0 1) = x
  unfold getVal leAt
  simp
  omega
theorem past1_app (x : Int) (q : List Int) (z : Bool) : (⟨x :: q, z⟩ : Cu).past 1 = ⟨q, z⟩ := past_app [x] q z 1 rfl
theorem num2_app (x : Int) (q : List Int) (z : Bool) (h0 : 0 ≤ x) (h1 : x < 65536) : (⟨putList x 2 ++ q, z⟩ : Cu).num 2 = x := by
  have hl := put2_length h0 h1
  unfold Cu.num
  rw [cut_app _ q z 2 hl.symm]
  have := by2_at [] x [] h0 h1 0 rfl
  rw [List.nil_append, List.append_nil] at this
  unfold by2 at this
  rw [show ((2 : Nat) : Int) = 2 from rfl, this]
  omega
theorem past2_app (x : Int) (q : List Int) (z : Bool) (h0 : 0 ≤ x) (h1 : x < 65536) : (⟨putList x 2 ++ q, z⟩ : Cu).past 2 = ⟨q, z⟩ := past_app _ q z 2 (put2_length h0 h1).symm
theorem fix_app (f : Fx) (q : List Int) (z : Bool) (h : 0 ≤ f.pl ∧ 0 ≤ f.kind ∧ 0 ≤ f.to ∧ -1000 ≤ f.add ∧ f.add ≤ 1000) : fixAt ⟨fixBytes f ++ q, z⟩ = f ∧ fixPast ⟨fixBytes f ++ q, z⟩ = ⟨q, z⟩ := by
  obtain ⟨h1, h2, h3, h4, h5⟩ := h
  have e : fixBytes f ++ q = f.pl :: (f.kind :: (f.to :: (putList (f.add + 1000) 2 ++ q))) := by unfold fixBytes; simp
  unfold fixAt fixPast
  rw [e, past1_app, past1_app, past1_app, num1_app _ _ _ h1, num1_app _ _ _ h2, num1_app _ _ _ h3, num2_app _ _ _ (by omega) (by omega), past2_app _ _ _ (by omega) (by omega), Int.add_sub_cancel]
  exact ⟨rfl, rfl⟩
theorem fixs_app (z : Bool) (q : List Int) (fs : List Fx) (h : ∀ f ∈ fs, 0 ≤ f.pl ∧ 0 ≤ f.kind ∧ 0 ≤ f.to ∧ -1000 ≤ f.add ∧ f.add ≤ 1000) : ∀ j, j ≤ fs.length → fixP ⟨fs.flatMap fixBytes ++ q, z⟩ j = ⟨(fs.drop j).flatMap fixBytes ++ q, z⟩ ∧ fixL ⟨fs.flatMap fixBytes ++ q, z⟩ j = fs.take j
  | 0, _ => ⟨by rw [fixP, List.drop_zero], by rw [fixL, List.take_zero]⟩
  | j + 1, hj => by
    obtain ⟨i1, i2⟩ := fixs_app z q fs h j (by omega)
    have hd : fs.drop j = fs[j] :: fs.drop (j + 1) := List.drop_eq_getElem_cons (by omega)
    have ha := fix_app fs[j] ((fs.drop (j + 1)).flatMap fixBytes ++ q) z (h _ (List.getElem_mem (by omega)))
    have e : (fs.drop j).flatMap fixBytes ++ q = fixBytes fs[j] ++ ((fs.drop (j + 1)).flatMap fixBytes ++ q) := by rw [hd, List.flatMap_cons, List.append_assoc]
    rw [fixP, fixL, i1, i2, e, ha.1, ha.2]
    exact ⟨rfl, by rw [List.take_succ_eq_append_getElem (by omega)]⟩
theorem name_app (t : List Int) (n : ByteArray) (q : List Int) (z : Bool) (h0 : 0 ≤ placeIn t n) (h1 : placeIn t n < 65536) (hn : nameOf t (placeIn t n) = n) (hne : n.size ≠ 0) :
    (⟨putList (placeIn t n) 2 ++ q, z⟩ : Cu).name t = n ∧ (⟨putList (placeIn t n) 2 ++ q, z⟩ : Cu).named t = ⟨q, z⟩ := by
  unfold Cu.name Cu.named
  rw [num2_app _ _ _ h0 h1, past2_app _ _ _ h0 h1, hn]
  refine ⟨rfl, if_pos ?_⟩
  unfold nameOf at hn
  cases e : textAt t (placeIn t n) with
  | none => rw [e] at hn; simp only at hn; rw [← hn] at hne; exact absurd rfl hne
  | some s => rfl
theorem sec_app (t : List Int) (s : Sx) (ht : Told t s) (hne : s.name.size ≠ 0) (q1 q2 q3 : List Int) (z1 z2 z3 : Bool) :
    secAt t ⟨⟨secX t s ++ q1, z1⟩, ⟨s.fixs.flatMap fixBytes ++ q2, z2⟩, ⟨s.bytes ++ q3, z3⟩⟩ = s ∧ secPast t ⟨⟨secX t s ++ q1, z1⟩, ⟨s.fixs.flatMap fixBytes ++ q2, z2⟩, ⟨s.bytes ++ q3, z3⟩⟩ = ⟨⟨q1, z1⟩, ⟨q2, z2⟩, ⟨q3, z3⟩⟩ := by
  obtain ⟨n1, n2, n3⟩ := ht.nums
  have hq : secX t s ++ q1 = putList (placeIn t s.name) 2 ++ (s.kind :: (s.align :: (s.long :: ((s.fixs.length : Int) :: q1)))) := by unfold secX; simp
  obtain ⟨m1, m2⟩ := name_app t s.name (s.kind :: (s.align :: (s.long :: ((s.fixs.length : Int) :: q1)))) z1 ht.place.1 ht.place.2 ht.name hne
  rw [hq]
  obtain ⟨S, hS⟩ : ∃ S : C3, S = ⟨⟨putList (placeIn t s.name) 2 ++ (s.kind :: (s.align :: (s.long :: ((s.fixs.length : Int) :: q1)))), z1⟩, ⟨s.fixs.flatMap fixBytes ++ q2, z2⟩, ⟨s.bytes ++ q3, z3⟩⟩ := ⟨_, rfl⟩
  rw [← hS]
  have e0 : S.k1 t = ⟨s.kind :: (s.align :: (s.long :: ((s.fixs.length : Int) :: q1))), z1⟩ := by rw [hS]; exact m2
  have e1 : S.kind t = s.kind := by unfold C3.kind; rw [e0]; exact num1_app _ _ _ n1
  have e2 : S.align t = s.align := by unfold C3.align; rw [e0, past1_app]; exact num1_app _ _ _ n2
  have e3 : S.size t = s.long := by unfold C3.size; rw [e0, past1_app, past1_app]; exact num1_app _ _ _ n3
  have e4 : S.k4 t = ⟨(s.fixs.length : Int) :: q1, z1⟩ := by unfold C3.k4; rw [e0, past1_app, past1_app, past1_app]
  have e5 : S.many t = s.fixs.length := by unfold C3.many; rw [e4, num1_app _ _ _ (by omega)]; omega
  have e6 : S.s.name t = s.name := by rw [hS]; exact m1
  have ef := fixs_app z2 q2 s.fixs ht.fixs s.fixs.length (Nat.le_refl _)
  rw [List.drop_length, List.take_length, List.flatMap_nil, List.nil_append] at ef
  have e7 : S.f = ⟨s.fixs.flatMap fixBytes ++ q2, z2⟩ := by rw [hS]
  have e8 : S.b = ⟨s.bytes ++ q3, z3⟩ := by rw [hS]
  unfold secAt secPast C3.bytes
  rw [e1, e2, e3, e4, e5, e6, e7, e8, ef.1, ef.2, past1_app]
  by_cases hk : s.kind = 3
  · obtain ⟨k1, k2⟩ := ht.blank hk
    rw [if_pos hk, if_pos hk, if_pos hk, k2, k1]
    refine ⟨?_, by rw [List.nil_append]⟩
    cases s
    simp only at k1
    subst k1
    rfl
  · obtain ⟨k1, k2⟩ := ht.full hk
    rw [if_neg hk, if_neg hk, if_neg hk, k2, Int.toNat_natCast, cut_app _ _ _ _ rfl, past_app _ _ _ _ rfl]
    refine ⟨?_, rfl⟩
    cases s
    simp only at k1
    subst k1
    rfl
theorem secs_app (t : List Int) (z1 z2 z3 : Bool) (q1 q2 q3 : List Int) (ss : List Sx) (h : ∀ s ∈ ss, Told t s ∧ s.name.size ≠ 0) : ∀ j, j ≤ ss.length →
    secP t ⟨⟨ss.flatMap (secX t) ++ q1, z1⟩, ⟨(ss.flatMap fun s => s.fixs.flatMap fixBytes) ++ q2, z2⟩, ⟨ss.flatMap Sx.bytes ++ q3, z3⟩⟩ j = ⟨⟨(ss.drop j).flatMap (secX t) ++ q1, z1⟩, ⟨((ss.drop j).flatMap fun s => s.fixs.flatMap fixBytes) ++ q2, z2⟩, ⟨(ss.drop j).flatMap Sx.bytes ++ q3, z3⟩⟩ ∧
    secL t ⟨⟨ss.flatMap (secX t) ++ q1, z1⟩, ⟨(ss.flatMap fun s => s.fixs.flatMap fixBytes) ++ q2, z2⟩, ⟨ss.flatMap Sx.bytes ++ q3, z3⟩⟩ j = ss.take j
  | 0, _ => ⟨by rw [secP, List.drop_zero], by rw [secL, List.take_zero]⟩
  | j + 1, hj => by
    obtain ⟨i1, i2⟩ := secs_app t z1 z2 z3 q1 q2 q3 ss h j (by omega)
    have hd : ss.drop j = ss[j] :: ss.drop (j + 1) := List.drop_eq_getElem_cons (by omega)
    have hm := h _ (List.getElem_mem (show j < ss.length by omega))
    have ha := sec_app t ss[j] hm.1 hm.2 ((ss.drop (j + 1)).flatMap (secX t) ++ q1) (((ss.drop (j + 1)).flatMap fun s => s.fixs.flatMap fixBytes) ++ q2) ((ss.drop (j + 1)).flatMap Sx.bytes ++ q3) z1 z2 z3
    rw [secP, secL, i1, i2, hd, List.flatMap_cons, List.flatMap_cons, List.flatMap_cons, List.append_assoc, List.append_assoc, List.append_assoc, ha.1, ha.2]
    exact ⟨rfl, by rw [List.take_succ_eq_append_getElem (by omega)]⟩
structure ToldM (t : List Int) (m : Sm) : Prop where
  place : 0 ≤ placeIn t m.name ∧ placeIn t m.name < 65536
  name : nameOf t (placeIn t m.name) = m.name
  nums : 0 ≤ m.bind ∧ -2 ≤ m.loc ∧ 0 ≤ m.value ∧ m.value < 65536
  some : m.name.size ≠ 0
theorem sym_app (t : List Int) (m : Sm) (h : ToldM t m) (q : List Int) (z : Bool) : symAt t ⟨symBytes t m ++ q, z⟩ = m ∧ symPast t ⟨symBytes t m ++ q, z⟩ = ⟨q, z⟩ := by
  obtain ⟨n1, n2, n3, n4⟩ := h.nums
  have hq : symBytes t m ++ q = putList (placeIn t m.name) 2 ++ (m.bind :: ((m.loc + 2) :: (putList m.value 2 ++ q))) := by unfold symBytes; simp
  obtain ⟨m1, m2⟩ := name_app t m.name (m.bind :: ((m.loc + 2) :: (putList m.value 2 ++ q))) z h.place.1 h.place.2 h.name h.some
  unfold symAt symPast
  rw [hq, m1, m2, past1_app, past1_app, num1_app _ _ _ n1, num1_app _ _ _ (by omega), num2_app _ _ _ n3 n4, past2_app _ _ _ n3 n4, Int.add_sub_cancel]
  exact ⟨rfl, rfl⟩
theorem syms_app (t : List Int) (z : Bool) (q : List Int) (ms : List Sm) (h : ∀ m ∈ ms, ToldM t m) : ∀ j, j ≤ ms.length →
    symP t ⟨ms.flatMap (symBytes t) ++ q, z⟩ j = ⟨(ms.drop j).flatMap (symBytes t) ++ q, z⟩ ∧ symL t ⟨ms.flatMap (symBytes t) ++ q, z⟩ j = ms.take j
  | 0, _ => ⟨by rw [symP, List.drop_zero], by rw [symL, List.take_zero]⟩
  | j + 1, hj => by
    obtain ⟨i1, i2⟩ := syms_app t z q ms h j (by omega)
    have hd : ms.drop j = ms[j] :: ms.drop (j + 1) := List.drop_eq_getElem_cons (by omega)
    have ha := sym_app t ms[j] (h _ (List.getElem_mem (by omega))) ((ms.drop (j + 1)).flatMap (symBytes t) ++ q) z
    rw [symP, symL, i1, i2, hd, List.flatMap_cons, List.append_assoc, ha.1, ha.2]
    exact ⟨rfl, by rw [List.take_succ_eq_append_getElem (by omega)]⟩
theorem nameOk_some {s : ByteArray} (h : nameOk s.data.toList = true) : s.size ≠ 0 := fun e => by
  have := (nameOk_iff _).1 h
  have e2 : s.data.toList = [] := List.eq_nil_of_length_eq_zero (by rw [Array.length_toList]; exact e)
  rw [e2] at this
  simp at this
set_option maxHeartbeats 1000000 in
theorem curs_w {ss : List Sx} {ms : List Sm} {b : List Int} (h : objOk ss ms = true) (hw : wobj ss ms = b) : isHd b = true ∧ (getHd b).sec = ss.length ∧ (getHd b).sym = ms.length ∧ (getHd b).fix = manyX ss ∧
    ∃ S : C5, cursC (b.drop 10) (getHd b) = S ∧ secL S.t S.three ss.length = ss ∧ symL S.t S.m ms.length = ms ∧ (secP S.t S.three ss.length).s.bad = false ∧ (secP S.t S.three ss.length).f.bad = false ∧ (secP S.t S.three ss.length).b.bad = false ∧ (symP S.t S.m ms.length).bad = false := by
  obtain ⟨T, hT⟩ : ∃ T, nameTab (namesX ss ms) = T := ⟨_, rfl⟩
  have hl : objOk ((bare ss).map Sp.s) ms = true := by rw [bare_s]; exact h
  have hO := objOk_told hl
  have hsec : ∀ s ∈ ss, sectOk s ms.length = true := fun s hs => hO.sec ⟨s, none, 0, none, 0⟩ (List.mem_map.2 ⟨s, hs, rfl⟩)
  have hall : allNames (bare ss) ms = namesX ss ms := by unfold allNames namesX bare; rw [List.map_map]; rfl
  have hplace : ∀ s ∈ namesX ss ms, (0 ≤ placeIn T s ∧ placeIn T s < 65536) ∧ nameOf T (placeIn T s) = s := fun s hs => by
    rw [← hall] at hs
    have h1 := place_bounds hO hs
    obtain ⟨q, hq, ht⟩ := nameTab_finds (names_ok hO) hs
    rw [hall, hT] at h1 hq ht
    refine ⟨h1, ?_⟩
    unfold placeIn
    rw [hq]
    unfold nameOf
    rcases e : textAt T q with _ | t
    · rw [e] at ht; cases ht
    · rw [e] at ht; injection ht
  have htold : ∀ s ∈ ss, Told T s ∧ s.name.size ≠ 0 := fun s hs => by
    obtain ⟨p1, p2, p3, p4, p5, p6⟩ := sect_parts (hsec s hs)
    obtain ⟨b1, b2, b3⟩ := sect_bytes (hsec s hs)
    have hp := hplace s.name (by unfold namesX; exact List.mem_append.2 (.inl (List.mem_map.2 ⟨s, hs, rfl⟩)))
    have hc := hsec s hs
    unfold sectOk at hc
    simp only [Bool.and_eq_true] at hc
    refine ⟨⟨hp.1, hp.2, ⟨by omega, by omega, p4⟩, fun hk => ?_, fun hk => ?_, fun f hf => ?_⟩, nameOk_some p1⟩
    · have hc := hc.2
      rw [if_pos hk] at hc
      simp only [Bool.and_eq_true, decide_eq_true_eq] at hc
      exact ⟨List.eq_nil_of_length_eq_zero hc.1, by unfold Sx.long; rw [if_pos hk]⟩
    · have hc := hc.2
      rw [if_neg hk] at hc
      simp only [Bool.and_eq_true, decide_eq_true_eq] at hc
      exact ⟨hc.2, by unfold Sx.long; rw [if_neg hk]⟩
    · obtain ⟨c1, c2, c3, c4⟩ := b3 f hf
      exact ⟨c1.1, by omega, c3.1, c4⟩
  have hsym : ∀ m ∈ ms, ToldM T m := fun m hm => by
    have hp := hplace m.name (by unfold namesX; exact List.mem_append.2 (.inr (List.mem_map.2 ⟨m, hm, rfl⟩)))
    obtain ⟨s1, s2, s3⟩ := sym_bytes hO hm
    have sv := sym_value hO hm
    have hs := hO.sym m hm
    unfold symOk at hs
    simp only [Bool.and_eq_true] at hs
    exact ⟨hp.1, hp.2, ⟨s1.1, s2, sv⟩, nameOk_some hs.1.1⟩
  have hhd := head_ok hO
  have hhe : headOf (bare ss) ms (nameTab (allNames (bare ss) ms)) = ⟨ss.length, ms.length, manyX ss, T.length⟩ := by
    unfold headOf
    have : manyFix (bare ss) = manyX ss := by unfold manyFix manyX bare; rw [List.map_map]; rfl
    rw [this, hall, hT]
    unfold bare
    rw [List.length_map]
  rw [hhe] at hhd
  have hb : b = putHd ⟨ss.length, ms.length, manyX ss, T.length⟩ ++ (ss.flatMap (secX T) ++ (ms.flatMap (symBytes T) ++ ((ss.flatMap fun s => s.fixs.flatMap fixBytes) ++ (T ++ ss.flatMap Sx.bytes)))) := by
    rw [← hw]; unfold wobj; rw [if_pos h, hT]
  obtain ⟨hi, hg⟩ := hd_back hhd (ss.flatMap (secX T) ++ (ms.flatMap (symBytes T) ++ ((ss.flatMap fun s => s.fixs.flatMap fixBytes) ++ (T ++ ss.flatMap Sx.bytes))))
  have lH : (putHd ⟨ss.length, ms.length, manyX ss, T.length⟩).length = 10 := by unfold putHd; rw [hhd]; rfl
  rw [← hb] at hi hg
  have lS : (ss.flatMap (secX T)).length = 6 * ss.length := flat_length _ 6 ss fun s hs => secX_length (htold s hs).1
  have lM : (ms.flatMap (symBytes T)).length = 6 * ms.length := flat_length _ 6 ms fun m hm => by
    have hm := hsym m hm
    unfold symBytes; rw [List.length_append, List.length_append, put2_length hm.place.1 hm.place.2, put2_length hm.nums.2.2.1 hm.nums.2.2.2]; rfl
  have lF : ∀ r : List Sx, (∀ s ∈ r, Told T s) → (r.flatMap fun s => s.fixs.flatMap fixBytes).length = 5 * manyX r := by
    intro r
    induction r with
    | nil => intro _; rfl
    | cons s r ih =>
      intro hr
      rw [List.flatMap_cons, List.length_append, ih (fun z hz => hr z (by simp [hz])), fixs_length _ (hr s (by simp)).fixs]
      unfold manyX; simp; omega
  have lF := lF ss fun s hs => (htold s hs).1
  rw [hg]
  refine ⟨hi, rfl, rfl, rfl, _, rfl, ?_⟩
  have ed : b.drop 10 = ss.flatMap (secX T) ++ (ms.flatMap (symBytes T) ++ ((ss.flatMap fun s => s.fixs.flatMap fixBytes) ++ (T ++ ss.flatMap Sx.bytes))) := by
    rw [hb, ← lH, List.drop_left]
  have e1 : cursC (b.drop 10) ⟨ss.length, ms.length, manyX ss, T.length⟩ = ⟨⟨ss.flatMap (secX T), false⟩, ⟨ms.flatMap (symBytes T), false⟩, ⟨ss.flatMap fun s => s.fixs.flatMap fixBytes, false⟩, ⟨ss.flatMap Sx.bytes, false⟩, T⟩ := by
    rw [ed]
    unfold cursC
    simp only
    rw [cut_app _ _ _ _ (by rw [lS]; omega), past_app _ _ _ _ (by rw [lS]; omega), cut_app _ _ _ _ (by rw [lM]; omega), past_app _ _ _ _ (by rw [lM]; omega), cut_app _ _ _ _ (by rw [lF]; omega), past_app _ _ _ _ (by rw [lF]; omega), cut_app _ _ _ _ (by omega), past_app _ _ _ _ (by omega)]
  rw [e1]
  have r1 := secs_app T false false false [] [] [] ss htold ss.length (Nat.le_refl _)
  have r2 := syms_app T false [] ms hsym ms.length (Nat.le_refl _)
  simp only [List.append_nil, List.drop_length, List.take_length] at r1 r2
  unfold C5.three
  simp only
  rw [r1.1, r1.2, r2.1, r2.2]
  exact ⟨rfl, rfl, rfl, rfl, rfl, rfl⟩
open Go.RowKit
def errTop : Nat := max (max 0 2) (max 3 1) + 1
structure Errs (W : World) : Prop where
  lt : errTop ≤ W.heap.size
  header : ∃ t u, W.cell? ⟨0, 0, none⟩ = some (.iface t u)
  short : ∃ t u, W.cell? ⟨2, 0, none⟩ = some (.iface t u)
  name : ∃ t u, W.cell? ⟨3, 0, none⟩ = some (.iface t u)
  other : ∃ t u, W.cell? ⟨1, 0, none⟩ = some (.iface t u)
theorem Errs.below {W W' : World} {B : Nat} (h : Errs W) (hb : Below B W W') (hB : errTop ≤ B) : Errs W' := by
  have k : ∀ i, i < errTop → W'.cell? ⟨i, 0, none⟩ = W.cell? ⟨i, 0, none⟩ := fun i hi => hb.cell (by show i < B; omega)
  refine ⟨Nat.le_trans h.lt hb.size, ?_, ?_, ?_, ?_⟩
  · rw [k _ (by unfold errTop; omega)]; exact h.header
  · rw [k _ (by unfold errTop; omega)]; exact h.short
  · rw [k _ (by unfold errTop; omega)]; exact h.name
  · rw [k _ (by unfold errTop; omega)]; exact h.other
theorem cell_same {W W' : World} {p : Addr} (h : W'.heap[p.block]? = W.heap[p.block]?) : W'.cell? p = W.cell? p := by
  unfold World.cell?
  rw [h]
theorem Errs.grown {W W' : World} {g : Nat} (h : Errs W) (hb : W.grownBy W' (some g)) (hg : errTop ≤ g) : Errs W' := by
  have k : ∀ i, i < errTop → W'.cell? ⟨i, 0, none⟩ = W.cell? ⟨i, 0, none⟩ := fun i hi => cell_same (hb.block i (Nat.lt_of_lt_of_le hi h.lt) (by intro e; injection e with e; omega))
  refine ⟨Nat.le_trans h.lt hb.size, ?_, ?_, ?_, ?_⟩
  · rw [k _ (by unfold errTop; omega)]; exact h.header
  · rw [k _ (by unfold errTop; omega)]; exact h.short
  · rw [k _ (by unfold errTop; omega)]; exact h.name
  · rw [k _ (by unfold errTop; omega)]; exact h.other
def ErrV (bad : Bool) (v : Value) : Prop := if bad then ∃ t u, v = .iface t u else v = .nilIface
def SlV (W : World) (B : Nat) (l : List Int) (v : Value) : Prop := ∃ a cap, v = .slice a l.length cap ∧ Ints W .u8 B a l ∧ l.length ≤ cap ∧ cap ≤ 9223372036854775807
theorem SlV.nil (W : World) (B : Nat) : SlV W B [] (.slice none 0 0) := ⟨none, 0, rfl, ⟨by simp, fun h => absurd h (by simp)⟩, Nat.le_refl _, by omega⟩
theorem ints_grown {W W' : World} {B g : Nat} {a : Option Addr} {l : List Int} (h : Ints W .u8 B a l) (hw : W.grownBy W' (some g)) (hg : B ≤ g) (hB : B ≤ W.heap.size) : Ints W' .u8 B a l :=
  ⟨h.1, fun hn => by
    obtain ⟨b, off, e, hb, hc⟩ := h.2 hn
    exact ⟨b, off, e, hb, fun i hi => (cell_same (hw.block b (by omega) (by intro e; injection e with e; omega))).trans (hc i hi)⟩⟩
theorem SlV.grown {W W' : World} {B g : Nat} {l : List Int} {v : Value} (h : SlV W B l v) (hw : W.grownBy W' (some g)) (hg : B ≤ g) (hB : B ≤ W.heap.size) : SlV W' B l v := by
  obtain ⟨a, cap, e, hi, h1, h2⟩ := h
  exact ⟨a, cap, e, ints_grown hi hw hg hB, h1, h2⟩
structure CurAt (W : World) (B : Nat) (cs : Array Value) (o : Nat) (c : Cu) : Prop where
  left : ∃ v, cs[o]? = some v ∧ SlV W B c.left v
  err : ∃ e, cs[o + 1]? = some e ∧ ErrV c.bad e
structure Cur (W : World) (B g o : Nat) (T : TypeId) (cs : Array Value) (c : Cu) : Prop where
  has : Has W g T cs
  at_ : CurAt W B cs o c
  base : B ≤ g
  errs : Errs W
  low : errTop ≤ B
theorem Cur.size {W : World} {B g o : Nat} {T : TypeId} {cs : Array Value} {c : Cu} (h : Cur W B g o T cs c) : B ≤ W.heap.size := Nat.le_trans h.base (Nat.le_of_lt h.has.lt)
structure Took (W : World) (B g o : Nat) (T : TypeId) (cs : Array Value) (c : Cu) (W' : World) (cs' : Array Value) : Prop where
  cur : Cur W' B g o T cs' c
  same : ∀ i, i ≠ o → i ≠ o + 1 → cs'[i]? = cs[i]?
  size : cs'.size = cs.size
  grown : W.grownBy W' (some g)
theorem Took.refl {W : World} {B g o : Nat} {T : TypeId} {cs : Array Value} {c : Cu} (h : Cur W B g o T cs c) : Took W B g o T cs c W cs := ⟨h, fun _ _ _ => rfl, rfl, ⟨rfl, rfl, rfl, Nat.le_refl _, fun _ _ _ => rfl⟩⟩
theorem grown_trans {a b c : World} {g : Nat} (h : a.grownBy b (some g)) (k : b.grownBy c (some g)) : a.grownBy c (some g) :=
  ⟨k.os.trans h.os, k.tape.trans h.tape, k.output.trans h.output, Nat.le_trans h.size k.size, fun i hi hne => (k.block i (Nat.lt_of_lt_of_le hi h.size) hne).trans (h.block i hi hne)⟩
theorem Took.trans {W W1 W2 : World} {B g o : Nat} {T : TypeId} {cs cs1 cs2 : Array Value} {c c2 : Cu} (h : Took W B g o T cs c W1 cs1) (k : Took W1 B g o T cs1 c2 W2 cs2) : Took W B g o T cs c2 W2 cs2 :=
  ⟨k.cur, fun i h1 h2 => (k.same i h1 h2).trans (h.same i h1 h2), k.size.trans h.size, grown_trans h.grown k.grown⟩
section
variable {W : World} {B g o : Nat} {T : TypeId} {cs : Array Value} {c : Cu}
theorem get_lt {cs : Array Value} {i : Nat} {v : Value} (h : cs[i]? = some v) : i < cs.size := by
  rcases Nat.lt_or_ge i cs.size with h' | h'
  · exact h'
  · rw [Array.getElem?_eq_none h'] at h; cases h
theorem Cur.cell0 (h : Cur W B g o T cs c) : ∃ a cap, W.cell? ⟨g, o, none⟩ = some (.slice a c.left.length cap) ∧ Ints W .u8 B a c.left ∧ c.left.length ≤ cap ∧ cap ≤ 9223372036854775807 := by
  obtain ⟨v, hv, a, cap, rfl, hi, h1, h2⟩ := h.at_.left
  exact ⟨a, cap, (h.has.cell o).trans hv, hi, h1, h2⟩
theorem Cur.cell1 (h : Cur W B g o T cs c) : ∃ e, W.cell? ⟨g, o + 1, none⟩ = some e ∧ ErrV c.bad e := by
  obtain ⟨e, he, hv⟩ := h.at_.err
  exact ⟨e, (h.has.cell (o + 1)).trans he, hv⟩
theorem Cur.put0 (h : Cur W B g o T cs c) {l : List Int} {v : Value} (hv : SlV W B l v) : Took W B g o T cs ⟨l, c.bad⟩ (W.setCell ⟨g, o, none⟩ v) (cs.setIfInBounds o v) := by
  obtain ⟨v0, h0, _⟩ := h.at_.left
  obtain ⟨e0, h1, h2⟩ := h.at_.err
  have hg : W.grownBy (W.setCell ⟨g, o, none⟩ v) (some g) := only_put' o v
  exact ⟨⟨h.has.put o v, ⟨⟨v, by rw [Array.getElem?_setIfInBounds_self_of_lt (get_lt h0)], hv.grown hg h.base h.size⟩, ⟨e0, by rw [Array.getElem?_setIfInBounds_ne (by omega)]; exact h1, h2⟩⟩, h.base, h.errs.grown hg (Nat.le_trans h.low h.base), h.low⟩,
    fun i h3 _ => Array.getElem?_setIfInBounds_ne (fun e => h3 e.symm), Array.size_setIfInBounds, hg⟩
theorem Cur.put1 (h : Cur W B g o T cs c) {bad : Bool} {e : Value} (he : ErrV bad e) : Took W B g o T cs ⟨c.left, bad⟩ (W.setCell ⟨g, o + 1, none⟩ e) (cs.setIfInBounds (o + 1) e) := by
  obtain ⟨v0, h0, hs⟩ := h.at_.left
  obtain ⟨e0, h1, h2⟩ := h.at_.err
  have hg : W.grownBy (W.setCell ⟨g, o + 1, none⟩ e) (some g) := only_put' (o + 1) e
  exact ⟨⟨h.has.put (o + 1) e, ⟨⟨v0, by rw [Array.getElem?_setIfInBounds_ne (by omega)]; exact h0, hs.grown hg h.base h.size⟩, ⟨e, by rw [Array.getElem?_setIfInBounds_self_of_lt (get_lt h1)], he⟩⟩, h.base, h.errs.grown hg (Nat.le_trans h.low h.base), h.low⟩,
    fun i _ h4 => Array.getElem?_setIfInBounds_ne (fun e => h4 e.symm), Array.size_setIfInBounds, hg⟩
end
set_option maxRecDepth 100000 in
set_option maxHeartbeats 1000000 in
theorem fail_any (W : World) (B g o : Nat) (T : TypeId) (cs : Array Value) (c : Cu) (h : Cur W B g o T cs c) (te : TypeId) (ue : Value) :
    Calls Tryz.prog 116 #[.pointer (some ⟨g, o, none⟩), .iface te ue] W fun r w' => r = .returned (.tuple #[]) ∧ w'.cell? ⟨g, o, none⟩ = some (.slice none 0 0) ∧ ∃ cs', Took W B g o T cs ⟨[], true⟩ w' cs' := by
  obtain ⟨e, he, hv⟩ := h.cell1
  obtain ⟨a0, cap0, q0, _, _, _⟩ := h.cell0
  have f0 := h.has.free o
  have f1 := h.has.free (o + 1)
  rcases hb : c.bad with _ | _
  · rw [hb] at hv
    obtain rfl : e = .nilIface := hv
    have h1 := h.put1 (bad := true) (e := .iface te ue) ⟨te, ue, rfl⟩
    have h2 := h1.cur.put0 (SlV.nil _ _)
    have f2 := h1.cur.has.free o
    obtain ⟨a1, cap1, q1, _, _, _⟩ := h1.cur.cell0
    have HF := hidden (h1.trans h2)
    have HQ : Hid (((W.setCell ⟨g, o + 1, none⟩ (.iface te ue)).setCell ⟨g, o, none⟩ (.slice none 0 0)).cell? ⟨g, o, none⟩ = some (.slice none 0 0)) := by
      obtain ⟨v0, hv0, -⟩ := h1.cur.at_.left
      show _ = _
      rw [h2.cur.has.cell o, Array.getElem?_setIfInBounds_self_of_lt (get_lt hv0)]
    clear h1 h2 h hb
    go_enter Tryz.func116, Tryz.ntmps116
    go_wp2_with fail
    go_end0
    exact ⟨rfl, HQ.out, _, HF.out⟩
  · rw [hb] at hv
    obtain ⟨t, u, rfl⟩ := hv
    have h2 := h.put0 (SlV.nil _ _)
    rw [hb] at h2
    have HF := hidden h2
    have HQ : Hid ((W.setCell ⟨g, o, none⟩ (.slice none 0 0)).cell? ⟨g, o, none⟩ = some (.slice none 0 0)) := by
      obtain ⟨v0, hv0, -⟩ := h.at_.left
      show _ = _
      rw [h2.cur.has.cell o, Array.getElem?_setIfInBounds_self_of_lt (get_lt hv0)]
    clear h2 h hb
    go_enter Tryz.func116, Tryz.ntmps116
    go_wp2_with fail
    go_end0
    exact ⟨rfl, HQ.out, _, HF.out⟩
theorem ints_first {W : World} {B : Nat} {a : Option Addr} {l : List Int} {cap k : Nat} (h : Ints W .u8 B a l) (hk : k ≤ l.length) (hc : l.length ≤ cap) : Ints W .u8 B (if cap = 0 then a else a.map (·.add (0 * 1))) (l.take k) :=
  ⟨fun x hx => h.1 x (List.mem_of_mem_take hx), fun hn => by
    rw [List.length_take] at hn
    obtain ⟨b, off, e, hb, hcl⟩ := h.2 (by omega)
    subst e
    refine ⟨b, off, ?_, hb, fun i hi => ?_⟩
    · rw [if_neg (by omega)]
      simp [Addr.add]
    · rw [List.length_take] at hi
      rw [hcl i (by omega), List.getD_eq_getElem?_getD, List.getD_eq_getElem?_getD, List.getElem?_take, if_pos (by omega)]⟩
theorem ints_rest {W : World} {B : Nat} {a : Option Addr} {l : List Int} {cap k : Nat} (h : Ints W .u8 B a l) (hc : l.length ≤ cap) : Ints W .u8 B (if cap = k then a else a.map (·.add (k * 1))) (l.drop k) :=
  ⟨fun x hx => h.1 x (List.mem_of_mem_drop hx), fun hn => by
    rw [List.length_drop] at hn
    obtain ⟨b, off, e, hb, hcl⟩ := h.2 (by omega)
    subst e
    refine ⟨b, off + k, ?_, hb, fun i hi => ?_⟩
    · rw [if_neg (by omega)]
      simp [Addr.add]
    · rw [List.length_drop] at hi
      rw [Nat.add_assoc, hcl (k + i) (by omega), List.getD_eq_getElem?_getD, List.getD_eq_getElem?_getD, List.getElem?_drop]⟩
structure Sv where
  a : Option Addr
  n : Nat
  cap : Nat
def Sv.v (s : Sv) : Value := .slice s.a s.n s.cap
def Sv.cut (s : Sv) (k : Nat) : Sv := if k ≤ s.n then ⟨if s.cap = 0 then s.a else s.a.map (·.add (0 * 1)), k, s.cap⟩ else ⟨none, 0, 0⟩
def Sv.past (s : Sv) (k : Nat) : Sv := if k ≤ s.n then ⟨if s.cap = k then s.a else s.a.map (·.add (k * 1)), s.n - k, s.cap - k⟩ else ⟨none, 0, 0⟩
theorem Sv.holds_cut {W : World} {B : Nat} {s : Sv} {c : Cu} (h : SlV W B c.left s.v) (k : Nat) : SlV W B (c.cut k) (s.cut k).v := by
  obtain ⟨a, cap, e, hi, h1, h2⟩ := h
  unfold Sv.v at e
  injection e with e1 e2 e3
  unfold Sv.cut Cu.cut
  rw [e2]
  split
  · rename_i hk
    exact ⟨_, s.cap, by unfold Sv.v; rw [List.length_take, Nat.min_eq_left hk], by rw [e1, e3]; exact ints_first hi hk h1, by rw [List.length_take]; omega, by omega⟩
  · exact SlV.nil _ _
theorem Sv.holds_past {W : World} {B : Nat} {s : Sv} {c : Cu} (h : SlV W B c.left s.v) (k : Nat) : SlV W B (c.past k).left (s.past k).v := by
  obtain ⟨a, cap, e, hi, h1, h2⟩ := h
  unfold Sv.v at e
  injection e with e1 e2 e3
  unfold Sv.past Cu.past
  rw [e2]
  split
  · rename_i hk
    exact ⟨_, s.cap - k, by unfold Sv.v; rw [List.length_drop], by rw [e1, e3]; exact ints_rest hi h1, by simp only [List.length_drop]; omega, by omega⟩
  · exact SlV.nil _ _
structure TakeR (W : World) (B g o : Nat) (T : TypeId) (cs : Array Value) (c : Cu) (k : Nat) (r : Ending) (w' : World) : Prop where
  val : ∃ v, r = .returned v ∧ SlV w' B (c.cut k) v
  det : ∀ s : Sv, W.cell? ⟨g, o, none⟩ = some s.v → r = .returned (s.cut k).v ∧ w'.cell? ⟨g, o, none⟩ = some (s.past k).v
  took : ∃ cs', Took W B g o T cs (c.past k) w' cs'
set_option maxRecDepth 100000 in
set_option maxHeartbeats 1000000 in
theorem take_any (W : World) (B g o : Nat) (T : TypeId) (cs : Array Value) (c : Cu) (h : Cur W B g o T cs c) (k : Nat) (hk : k ≤ 9223372036854775807) :
    Calls Tryz.prog 101 #[.pointer (some ⟨g, o, none⟩), .int .i64 k] W fun r w' => TakeR W B g o T cs c k r w' := by
  obtain ⟨a, cap, hc0, hi, hn, hcap⟩ := h.cell0
  obtain ⟨n, hN⟩ : ∃ n, c.left.length = n := ⟨_, rfl⟩
  rw [hN] at hc0 hn
  by_cases hkn : k ≤ n
  · have hcut : c.cut k = c.left.take k := by unfold Cu.cut; rw [if_pos (by omega)]
    have hpast : c.past k = ⟨c.left.drop k, c.bad⟩ := by unfold Cu.past; rw [if_pos (by omega)]
    obtain ⟨a1, ha1⟩ : ∃ a1, (if cap = 0 then a else a.map (·.add (0 * 1))) = a1 := ⟨_, rfl⟩
    obtain ⟨a2, ha2⟩ : ∃ a2, (if cap = k then a else a.map (·.add (k * 1))) = a2 := ⟨_, rfl⟩
    have hi1 : Ints W .u8 B a1 (c.left.take k) := by rw [← ha1]; exact ints_first hi (by omega) (by omega)
    have hi2 : Ints W .u8 B a2 (c.left.drop k) := by rw [← ha2]; exact ints_rest hi (by omega)
    have ht : Tryz.prog.underlying 22 = some (.slice (Tryz.prog.elem 22)) := by kernel_rfl
    have hz : (sizeOf (Tryz.prog.elem 22)).run Tryz.prog W = .ok 1 W := by kernel_rfl
    have hs1 : (Instr.slice 22 (.slice a n cap) none (some (.int .i64 (k : Int))) none).run Tryz.prog W = .ok (.slice a1 k cap) W := by
      rw [run_slice_h W 22 a n cap ht .i64 (k : Int) (by omega) (by omega), hz]
      simp only [Result.andThen, sliced, Int.toNat_natCast, ha1, Nat.sub_zero]
    have hs2 : (Instr.slice 22 (.slice a n cap) (some (.int .i64 (k : Int))) none none).run Tryz.prog W = .ok (.slice a2 (n - k) (cap - k)) W := by
      rw [run_slice_l W 22 a n cap ht .i64 (k : Int) (by omega) (by omega), hz]
      simp only [Result.andThen, sliced, Int.toNat_natCast, ha2]
    have hP := h.put0 (l := c.left.drop k) (v := .slice a2 (n - k) (cap - k)) ⟨a2, cap - k, by rw [List.length_drop, hN], hi2, by rw [List.length_drop]; omega, by omega⟩
    have hR : SlV (W.setCell ⟨g, o, none⟩ (.slice a2 (n - k) (cap - k))) B (c.left.take k) (.slice a1 k cap) :=
      SlV.grown ⟨a1, cap, by rw [List.length_take, hN, Nat.min_eq_left hkn], hi1, by rw [List.length_take]; omega, hcap⟩ hP.grown h.base h.size
    have f0 := h.has.free o
    have hle : ¬ (n : Int) < (k : Int) := by omega
    have HD : Hid (∀ s : Sv, W.cell? ⟨g, o, none⟩ = some s.v → Ending.returned (.slice a1 k cap) = .returned (s.cut k).v ∧ (W.setCell ⟨g, o, none⟩ (.slice a2 (n - k) (cap - k))).cell? ⟨g, o, none⟩ = some (s.past k).v) := fun s hs => by
      rw [hc0] at hs
      injection hs with hs
      unfold Sv.v at hs
      injection hs with e1 e2 e3
      obtain ⟨v0, hv0, -⟩ := h.at_.left
      unfold Sv.cut Sv.past Sv.v
      rw [← e2, if_pos hkn, if_pos hkn, ← e1, ← e3]
      refine ⟨by rw [← ha1], ?_⟩
      rw [hP.cur.has.cell o, Array.getElem?_setIfInBounds_self_of_lt (get_lt hv0), ← ha2]
    have HT : TakeR W B g o T cs c k (.returned (.slice a1 k cap)) (W.setCell ⟨g, o, none⟩ (.slice a2 (n - k) (cap - k))) := ⟨⟨_, rfl, by rw [hcut]; exact hR⟩, HD.out, _, by rw [hpast]; exact hP⟩
    clear hP hR HD h hi hi1 hi2 hcut hpast ha1 ha2 hz ht hkn hn hk hcap hN
    go_enter Tryz.func101, Tryz.ntmps101
    go_wp2_with fail
    go_ret
    exact HT
  · have hcut : c.cut k = [] := by unfold Cu.cut; rw [if_neg (by omega)]
    have hpast : c.past k = ⟨[], true⟩ := by unfold Cu.past; rw [if_neg (by omega)]
    obtain ⟨te, ue, hge⟩ := h.errs.short
    have hlt : (n : Int) < (k : Int) := by omega
    have HF := hidden (fail_any W B g o T cs c h te ue)
    have HCC := hidden (And.intro hcut hpast)
    have HD : Hid (∀ s : Sv, W.cell? ⟨g, o, none⟩ = some s.v → (s.cut k).v = .slice none 0 0 ∧ (s.past k).v = .slice none 0 0) := fun s hs => by
      rw [hc0] at hs
      injection hs with hs
      unfold Sv.v at hs
      injection hs with e1 e2 e3
      unfold Sv.cut Sv.past Sv.v
      rw [← e2, if_neg hkn, if_neg hkn]
      exact ⟨rfl, rfl⟩
    clear h hi hcut hpast hkn hn hk hcap hN
    go_enter Tryz.func101, Tryz.ntmps101
    go_wp2_with fail
    refine HF.out.mono ?_
    rintro r w' ⟨rfl, hq, cs', ht⟩
    have HT : TakeR W B g o T cs c k (.returned (.slice none 0 0)) w' := ⟨⟨_, rfl, by rw [HCC.out.1]; exact SlV.nil _ _⟩, fun s hs => by obtain ⟨e1, e2⟩ := HD.out s hs; rw [e1, e2]; exact ⟨rfl, hq⟩, _, by rw [HCC.out.2]; exact ht⟩
    clear ht HF hc0 hge hq HCC HD
    go_wp2_with fail
    go_ret
    exact HT
set_option maxRecDepth 100000 in
set_option maxHeartbeats 1000000 in
theorem number_any (W : World) (B g o : Nat) (T : TypeId) (cs : Array Value) (c : Cu) (h : Cur W B g o T cs c) (k : Nat) (hk : k = 1 ∨ k = 2) :
    Calls Tryz.prog 103 #[.pointer (some ⟨g, o, none⟩), .int .i64 k] W fun r w' => r = .returned (.int .i64 (c.num k)) ∧ ∃ cs', Took W B g o T cs (c.past k) w' cs' := by
  have HT := hidden (take_any W B g o T cs c h k (by omega))
  have hl : (c.cut k).length ≤ 2 := by unfold Cu.cut; split <;> simp <;> omega
  obtain ⟨y, hy⟩ : ∃ y, getVal (c.cut k) 0 k = y := ⟨_, rfl⟩
  obtain ⟨z, hz⟩ : ∃ z, c.num k = z := ⟨_, rfl⟩
  have HG : Hid (∀ (W : World) v, SlV W B (c.cut k) v → Calls Tryz.prog 100 #[v, .int .i64 0, .int .i64 k] W fun e w' => e = .returned (.int .i64 y) ∧ W = w') := fun W v hv => by
    obtain ⟨a, cap, rfl, hi, _, _⟩ := hv
    have := getNumber_any W B a cap (c.cut k) hi (by omega) 0 k
    rwa [hy] at this
  have HM : Hid (max 0 y = z) := by show _ = _; rw [← hy, ← hz]; rfl
  rw [hz]
  clear hl h hz hy hk
  go_enter Tryz.func103, Tryz.ntmps103
  go_wp2_with fail
  refine HT.out.mono ?_
  rintro r w1 ⟨⟨v, rfl, hv⟩, -, cs', hk⟩
  have HK := hidden hk
  have HV := hidden (HG.out w1 v hv)
  clear hv hk HT HG
  go_wp2_with fail
  refine HV.out.mono ?_
  rintro r _ ⟨rfl, rfl⟩
  clear HV
  go_wp2_with fail
  go_ret
  rw [HM.out]
  exact ⟨rfl, _, HK.out⟩
open Go.RowKit
def WantReadObject : Prop := ∀ (w : World) (B : Nat) (a : Option Addr) (cap : Nat) (l : List Int), Errs w → Ints w .u8 B a l → B ≤ w.heap.size → l.length ≤ 2000000 → l.length ≤ cap → cap ≤ 9223372036854775807 →
  Calls Tryz.prog 12 #[.slice a l.length cap] w (ReadS w l)
theorem ReadS.told {w : World} {t : List Int} {e : Ending} {w' : World} (h : ReadS w t e w') : ∃ (ok : Bool) (ss : List Sp) (ms : List Sm) (a1 a2 : Option Addr) (c1 c2 : Nat), e = .returned (.tuple #[.agg #[.slice a1 ss.length c1, .slice a2 ms.length c2], .bool ok]) ∧
    (ok = true → rd t = some (ss.map Sp.s, ms)) ∧ (ok = false → rd t = none ∧ ss = [] ∧ ms = []) ∧ Sects w' w'.heap.size a1 ss ∧ Syms w' w'.heap.size a2 ms ∧ (∀ y ∈ ss, ∀ x ∈ y.s.bytes, (Lit.int .u8 x).wf = true) ∧ Below w.heap.size w w' := by
  obtain ⟨hb, ⟨hr, he⟩ | ⟨ss, ms, a1, a2, c1, c2, hr, he, hs, hm⟩⟩ := h
  · exact ⟨false, [], [], none, none, 0, 0, he, (fun e => by cases e), (fun _ => ⟨hr, rfl, rfl⟩), ⟨fun h => absurd h (by simp), (fun y hy => by cases hy), (fun y hy => by cases hy)⟩, (fun h => absurd h (by simp)), (fun y hy => by cases hy), hb⟩
  · exact ⟨true, ss, ms, a1, a2, c1, c2, he, fun _ => hr, (fun e => by cases e), hs.sects, syms_of_own hm, hs.wf, hb⟩
theorem name_short {s : ByteArray} (h : nameOk s.data.toList = true) : s.size ≤ 8 := by
  have := ((nameOk_iff _).1 h).1.2
  rw [Array.length_toList] at this
  exact this
theorem ok_fits {l : List Sp} {ms : List Sm} (h : objOk (l.map Sp.s) ms = true) : (∀ y ∈ l, y.s.fits) ∧ ∀ x ∈ ms, x.fits := by
  have ht := objOk_told h
  refine ⟨fun y hy => ?_, fun x hx => ?_⟩
  · have hs := ht.sec y hy
    obtain ⟨p1, p2, p3, _⟩ := sect_parts hs
    obtain ⟨k1, k2, k3⟩ := sect_bytes hs
    have hz : 0 ≤ y.s.size ∧ y.s.size ≤ 48 := by
      unfold sectOk at hs
      simp only [Bool.and_eq_true, decide_eq_true_eq] at hs
      exact hs.1.2
    have hm := ht.syms
    refine ⟨by have := name_short p1; unfold maxLen; omega, ⟨by omega, by omega⟩, ⟨by omega, by omega⟩, ⟨by omega, by omega⟩, by omega, by omega, fun f hf => ?_⟩
    obtain ⟨q1, q2, q3, q4⟩ := k3 f hf
    exact ⟨⟨by omega, by omega⟩, ⟨by omega, by omega⟩, ⟨by omega, by omega⟩, ⟨by omega, by omega⟩⟩
  · have hs := ht.sym x hx
    obtain ⟨b1, b2⟩ := sym_bytes ht hx
    have hv := sym_value ht hx
    have hn : nameOk x.name.data.toList = true := by
      unfold symOk at hs
      simp only [Bool.and_eq_true] at hs
      exact hs.1.1
    exact ⟨by have := name_short hn; unfold maxLen; omega, ⟨by omega, by omega⟩, ⟨by omega, by omega⟩, ⟨by omega, by omega⟩⟩

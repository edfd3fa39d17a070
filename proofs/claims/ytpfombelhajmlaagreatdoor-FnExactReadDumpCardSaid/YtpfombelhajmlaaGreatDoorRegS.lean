import Derived.Test.YtpfombelhajmlaaGreatDoorRdN
import Derived.Test.YtpfombelhajmlaaGreatDoorDumpW
import Derived.Test.YtpfombelhajmlaaGreatDoorDumpO
import Derived.Test.YtpfombelhajmlaaGreatDoorRegionV
namespace Go.Proofs.YtpfombelhajmlaaGreatDoor
open Go.RowKit
theorem rdDig_le : ∀ (s : List Int) (k : Nat) (a n : Int), rdDig s k a = some n → 0 ≤ a → a ≤ bnd k → 0 ≤ n ∧ n ≤ 999999
  | [], k, a, n, h, h0, h1 => by
    rw [rdDig] at h
    injection h with h
    subst h
    exact ⟨h0, Int.le_trans h1 (bnd_le k)⟩
  | c :: r, k, a, n, h, h0, h1 => by
    rw [rdDig] at h
    split at h
    · rename_i hd
      unfold digC at hd
      simp only [Bool.and_eq_true, decide_eq_true_eq] at hd
      obtain ⟨hc, hk⟩ := hd
      have := (bnd_next hk).1
      exact rdDig_le r (k + 1) _ n h (by omega) (by omega)
    · cases h
theorem rdNum_bound (s : List Int) : -999999 ≤ rdNum s ∧ rdNum s ≤ 999999 := by
  unfold rdNum
  split
  · omega
  · rename_i n hn
    have hb : 0 ≤ n ∧ n ≤ 999999 := by
      split at hn
      · exact rdDig_le _ 1 0 n hn (by omega) (by decide)
      · exact rdDig_le _ 0 0 n hn (by omega) (by decide)
    split
    · split <;> omega
    · omega
theorem rdNum_i64 (s : List Int) : I64 (rdNum s) := by
  have := rdNum_bound s
  unfold I64
  omega
theorem wordsL_sub : ∀ (t : List Int), ∀ u ∈ wordsL t, u.Sublist t
  | [], u, h => by
    simp [wordsL] at h
    rw [h]
    exact List.Sublist.slnil
  | c :: r, u, h => by
    rw [wordsL] at h
    split at h
    · rcases List.mem_cons.1 h with rfl | h
      · exact List.nil_sublist _
      · exact (wordsL_sub r u h).cons c
    · split at h
      · rename_i w q hq
        rcases List.mem_cons.1 h with rfl | h
        · exact (wordsL_sub r w (by rw [hq]; simp)).cons_cons c
        · exact (wordsL_sub r u (by rw [hq]; simp [h])).cons c
      · rename_i hq
        exact absurd hq (wordsL_ne r)
theorem rhx_fst (t : List Int) : (rhx t).1 = (rdHexL t).getD [] := by
  unfold rhx
  cases rdHexL t <;> rfl
theorem rhx_byte (t : List Int) : ∀ x ∈ (rhx t).1, 0 ≤ x ∧ x < 256 := fun x hx => by
  unfold rhx at hx
  split at hx
  · rename_i l hl
    exact (rdHexL_some _ _ hl).2 x hx
  · cases hx
theorem rhx_short (t : List Int) : (rhx t).1.length ≤ t.length := by
  unfold rhx
  split
  · rename_i l hl
    have := (rdHexL_some _ _ hl).1
    have h2 := hexL_length l
    rw [this] at h2
    show l.length ≤ _
    omega
  · exact Nat.zero_le _
theorem numsOf_byte (s : ByteArray) : ∀ x ∈ numsOf s, 0 ≤ x ∧ x < 256 := fun x hx => by
  unfold numsOf at hx
  obtain ⟨c, hc, rfl⟩ := List.mem_map.1 hx
  have := c.toNat_lt
  omega
theorem wordsT_nums (s : ByteArray) (i : Nat) : numsOf ((wordsT (numsOf s)).getD i ⟨#[]⟩) = (wordsL (numsOf s)).getD i [] := by
  unfold wordsT
  rw [List.getD_eq_getElem?_getD, List.getD_eq_getElem?_getD, List.getElem?_map]
  cases h : (wordsL (numsOf s))[i]? with
  | none => rfl
  | some u =>
    have hs := wordsL_sub _ u (List.mem_of_getElem? h)
    exact numsOf_strOfNums fun x hx => numsOf_byte s x (hs.subset hx)
theorem wordsT_str (s : ByteArray) (i : Nat) : (wordsT (numsOf s)).getD i ⟨#[]⟩ = strOfNums ((wordsL (numsOf s)).getD i []) := by
  rw [← wordsT_nums, strOfNums_numsOf]
theorem wordsT_size (s : ByteArray) (i : Nat) : ((wordsT (numsOf s)).getD i ⟨#[]⟩).size ≤ s.size := by
  rw [wordsT_str, strOfNums_size, ← numsOf_length s]
  rw [List.getD_eq_getElem?_getD]
  cases h : (wordsL (numsOf s))[i]? with
  | none => exact Nat.zero_le _
  | some u => exact (wordsL_sub _ u (List.mem_of_getElem? h)).length_le
def wNum (ws : List ByteArray) (i : Nat) : Int := rdNum (numsOf (ws.getD i ⟨#[]⟩))
def stepW (o : List Sx × List Sm) (ws : List ByteArray) : Option (List Sx × List Sm) :=
  if ws.getD 0 ⟨#[]⟩ = wSec ∧ 5 ≤ ws.length ∧ ws.length ≤ 6 then
    some (o.1 ++ [⟨ws.getD 1 ⟨#[]⟩, wNum ws 2, wNum ws 3, if ws.length = 6 then (rhx (numsOf (ws.getD 5 ⟨#[]⟩))).1 else [], if wNum ws 2 = 3 then wNum ws 4 else 0, []⟩], o.2)
  else if ws.getD 0 ⟨#[]⟩ = wFix ∧ ws.length = 5 ∧ 0 < o.1.length then
    some (o.1.dropLast ++ (o.1.getLast?.toList.map fun s => { s with fixs := s.fixs ++ [⟨wNum ws 1, wNum ws 2, wNum ws 3, wNum ws 4⟩] }), o.2)
  else if ws.getD 0 ⟨#[]⟩ = wSym ∧ ws.length = 5 then
    some (o.1, o.2 ++ [⟨ws.getD 1 ⟨#[]⟩, wNum ws 2, wNum ws 3, wNum ws 4⟩])
  else none
theorem word_is (s : ByteArray) (B : ByteArray) (L : List Int) (h1 : numsOf B = L) (h2 : strOfNums L = B) : ((wordsT (numsOf s)).getD 0 ⟨#[]⟩ = B) = ((wordsL (numsOf s)).getD 0 [] = L) :=
  propext ⟨fun e => by rw [← wordsT_nums, e, h1], fun e => by rw [wordsT_str, e, h2]⟩
theorem stepW_line (o : List Sx × List Sm) (s : ByteArray) : dumpStep o (numsOf s) = stepW o (wordsT (numsOf s)) := by
  have hl : (wordsT (numsOf s)).length = (wordsL (numsOf s)).length := by unfold wordsT; rw [List.length_map]
  unfold dumpStep stepW wNum
  simp only [wordsT_nums, hl, word_is s wSec tSec (by decide) (by decide), word_is s wFix tFix (by decide) (by decide), word_is s wSym tSym (by decide) (by decide)]
  simp only [wordsT_str, rhx_fst]
theorem parseD_snoc {S : List ByteArray} {k : Nat} {s : ByteArray} {o : List Sx × List Sm} (h : parseD ([], []) ((S.take k).map numsOf) = some o) (hs : S[k]? = some s) : parseD ([], []) ((S.take (k + 1)).map numsOf) = stepW o (wordsT (numsOf s)) := by
  rw [List.take_add_one, hs, List.map_append, parseD_append, h, ← stepW_line]
  show parseD o [numsOf s] = _
  rw [parseD]
  cases dumpStep o (numsOf s) <;> rfl
theorem parseD_fail {S : List ByteArray} {k : Nat} {s : ByteArray} {o : List Sx × List Sm} (h : parseD ([], []) ((S.take k).map numsOf) = some o) (hs : S[k]? = some s) (hn : stepW o (wordsT (numsOf s)) = none) : rdD (S.map numsOf) = none := by
  obtain ⟨h1, h2⟩ := List.getElem?_eq_some_iff.1 hs
  have e : S = S.take k ++ s :: S.drop (k + 1) := by rw [← h2, List.getElem_cons_drop, List.take_append_drop]
  have hp : parseD ([], []) (S.map numsOf) = none := by
    rw [e, List.map_append, parseD_append, h, List.map_cons]
    show parseD o (numsOf s :: _) = none
    rw [parseD, stepW_line, hn]
    rfl
  unfold rdD
  rw [hp]
theorem rdD_eq {S : List ByteArray} {ss : List Sx} {ms : List Sm} (hp : parseD ([], []) (S.map numsOf) = some (ss, ms)) (hb : ∀ s ∈ ss, ∀ x ∈ s.bytes, 0 ≤ x ∧ x < 256) : rdD (S.map numsOf) = if objOk ss ms = true ∧ dumpX ss ms = S then some (ss, ms) else none := by
  unfold rdD
  rw [hp]
  by_cases hk : objOk ss ms = true
  · have hiff : dumpX ss ms = S ↔ dumpL ss ms = S.map numsOf := by
      rw [← dumpX_nums hk hb]
      constructor
      · intro e; rw [e]
      · intro e
        have e2 := congrArg (List.map strOfNums) e
        rw [List.map_map, List.map_map] at e2
        have hid : (strOfNums ∘ numsOf) = id := funext strOfNums_numsOf
        rw [hid, List.map_id, List.map_id] at e2
        exact e2
    by_cases hd : dumpX ss ms = S
    · simp [hk, hd, hiff.1 hd]
    · have hd2 : ¬ dumpL ss ms = S.map numsOf := fun e => hd (hiff.2 e)
      simp [hk, hd, hd2]
  · simp [hk]
end Go.Proofs.YtpfombelhajmlaaGreatDoor
namespace Go.Proofs.YtpfombelhajmlaaGreatDoor
open Go.RowKit
section
variable {P : Program} {Q : Exit → Act → World → Prop}
def SeqS (P : Program) (JC : Nat → World → (Nat → Value) → Prop) (Q : Exit → Act → World → Prop) (vals : Nat → Value) : List Oper → List Job → Act → Prop
  | o :: l, .quiet v kq :: js, a => (∀ k, k ≤ kq → ∀ w, JC k w vals → o.wp P a w (fun a' w' => ∃ u, a' = a.put o.dst u ∧ (u = v ∧ (w' = w ∨ JC k w' vals))) (NoPanic Q)) ∧ SeqS P JC Q vals l js (a.put o.dst v)
  | o :: l, .chain k :: js, a => (∀ w, JC k w vals → o.wp P a w (fun a' w' => ∃ u, a' = a.put o.dst u ∧ JC (k + 1) w' (upd vals k u)) (NoPanic Q)) ∧ SeqS P JC Q vals l js (a.put o.dst (vals k))
  | _, _, _ => True
def StepS (P : Program) (JC : Nat → World → (Nat → Value) → Prop) (Q : Exit → Act → World → Prop) (vals : Nat → Value) (o : Oper) (a : Act) : Job → Prop
  | .quiet v kq => ∀ k, k ≤ kq → ∀ w, JC k w vals → o.wp P a w (fun a' w' => ∃ u, a' = a.put o.dst u ∧ (u = v ∧ (w' = w ∨ JC k w' vals))) (NoPanic Q)
  | .chain k => ∀ w, JC k w vals → o.wp P a w (fun a' w' => ∃ u, a' = a.put o.dst u ∧ JC (k + 1) w' (upd vals k u)) (NoPanic Q)
theorem SeqS.get {JC : Nat → World → (Nat → Value) → Prop} {vals : Nat → Value} : ∀ (l : List Oper) (js : List Job) (a : Act), SeqS P JC Q vals l js a → ∀ (i : Nat) (o : Oper) (j : Job), l[i]? = some o → js[i]? = some j → StepS P JC Q vals o (putAll a (l.take i) ((js.take i).map (Job.val vals))) j
  | [], _, _, _, i, o, j, h, _ => by simp at h
  | _ :: _, [], _, _, i, o, j, _, h => by simp at h
  | x :: l, .quiet v kq :: js, a, h, i, o, j, ho, hj => by
    obtain ⟨h1, h2⟩ := h
    cases i with
    | zero => simp at ho hj; subst ho; subst hj; exact h1
    | succ i => have := SeqS.get l js _ h2 i o j (by simpa using ho) (by simpa using hj); simpa [putAll, Job.val] using this
  | x :: l, .chain k :: js, a, h, i, o, j, ho, hj => by
    obtain ⟨h1, h2⟩ := h
    cases i with
    | zero => simp at ho hj; subst ho; subst hj; exact h1
    | succ i => have := SeqS.get l js _ h2 i o j (by simpa using ho) (by simpa using hj); simpa [putAll, Job.val] using this
set_option maxHeartbeats 1000000 in
theorem wp_region_stir {l : List Oper} {js : List Job} {m : Nat} {id : Nat} {a0 : Act} {w0 : World} (hm : P.follows .mixedOrders = true) (JC : Nat → World → (Nat → Value) → Prop) (hok : fitsV2 l a0.tmps.size = true) (hokw : fitsW l js m = true)
    (hJ : ∃ vals, JC 0 w0.drew vals) (h : ∀ vals, SeqS P JC Q vals l js a0) (hfin : ∀ w vals, JC m w vals → Q .normal (putAll a0 l (js.map (Job.val vals))) w) : (Code.region id l.toArray true).wp P Q a0 w0 := by
  unfold fitsW at hokw
  simp only [Bool.and_eq_true, decide_eq_true_eq] at hokw
  obtain ⟨⟨⟨hjl, hg0⟩, hex⟩, hch⟩ := hokw
  have hguard : ∀ (i : Nat) (o : Oper), l[i]? = some o → o.guard = none := by
    intro i o ho
    rw [List.all_eq_true] at hg0
    have := hg0 o (List.mem_of_getElem? ho)
    simpa using this
  have hexk : ∀ k, k < m → ∃ i : Nat, js[i]? = some (Job.chain k) := by
    intro k hk
    rw [List.all_eq_true] at hex
    have := hex k (List.mem_range.2 hk)
    rw [List.any_eq_true] at this
    obtain ⟨j, hj, hc⟩ := this
    obtain ⟨i, hi⟩ := List.mem_iff_getElem?.1 hj
    cases j with
    | quiet v kq => simp [Job.isChain] at hc
    | chain k' => simp [Job.isChain] at hc; subst hc; exact ⟨i, hi⟩
  have hone : ∀ (i j k : Nat), js[i]? = some (.chain k) → js[j]? = some (.chain k) → j = i := by
    intro i j k hi hj
    rw [List.all_eq_true] at hch
    have := hch (.chain k, i) (by rw [List.mem_zipIdx_iff_getElem?]; exact hi)
    simp only [Bool.and_eq_true, List.all_eq_true] at this
    have := this.1.2 (.chain k, j) (by rw [List.mem_zipIdx_iff_getElem?]; exact hj)
    simpa [Job.isChain] using this
  have hlt : ∀ (i k : Nat), js[i]? = some (.chain k) → k < m := by
    intro i k hi
    rw [List.all_eq_true] at hch
    have := hch (.chain k, i) (by rw [List.mem_zipIdx_iff_getElem?]; exact hi)
    simp only [Bool.and_eq_true, decide_eq_true_eq] at this
    exact this.1.1
  have hprev : ∀ (i k : Nat) (o : Oper), js[i]? = some (.chain (k + 1)) → l[i]? = some o → ∃ e ∈ o.after, Region.binds .any e = true ∧ js[e.on]? = some (.chain k) := by
    intro i k o hi ho
    rw [List.all_eq_true] at hch
    have := hch (.chain (k + 1), i) (by rw [List.mem_zipIdx_iff_getElem?]; exact hi)
    simp only [Bool.and_eq_true, Nat.add_sub_cancel, ho, Option.map_some, Option.getD_some, Bool.or_eq_true, Array.any_eq_true] at this
    rcases this.2 with h0 | ⟨q, hq, hb, hc⟩
    · simp at h0
    · refine ⟨_, Array.getElem_mem hq, hb, ?_⟩
      rcases hjo : js[(o.after[q]).on]? with _ | j
      · rw [hjo] at hc; simp at hc
      · rw [hjo] at hc
        cases j with
        | quiet v kq => simp [Job.isChain] at hc
        | chain k' => simp [Job.isChain] at hc; subst hc; rfl
  have htake : ∀ (i j kq : Nat) (v : Value) (o : Oper), js[i]? = some (.quiet v kq) → js[j]? = some (.chain kq) → l[j]? = some o → ∃ e ∈ o.after, Region.binds .any e = true ∧ e.on = i := by
    intro i j kq v o hi hj ho
    rw [List.all_eq_true] at hch
    have := hch (.quiet v kq, i) (by rw [List.mem_zipIdx_iff_getElem?]; exact hi)
    simp only [List.all_eq_true] at this
    have := this (.chain kq, j) (by rw [List.mem_zipIdx_iff_getElem?]; exact hj)
    simp only [Job.isChain, beq_self_eq_true, Bool.not_true, Bool.false_or, ho, Option.map_some, Option.getD_some, Array.any_eq_true, Bool.and_eq_true] at this
    obtain ⟨q, hq, hb, hc⟩ := this
    exact ⟨_, Array.getElem_mem hq, hb, by simpa using hc⟩
  unfold fitsV2 at hok
  simp only [Bool.and_eq_true, decide_eq_true_eq] at hok
  obtain ⟨⟨⟨⟨h1, h2⟩, h3⟩, h4⟩, h5⟩ := hok
  have hsel : ∀ (i : Nat) (o : Oper), l[i]? = some o → ∀ cs b, o.op ≠ .select cs b := by
    intro i o ho cs b hb
    rw [List.all_eq_true] at h1
    have := h1 o (List.mem_of_getElem? ho)
    rw [hb] at this
    simp at this
  have hback : ∀ (i : Nat) (o : Oper), l[i]? = some o → ∀ e ∈ o.after, Region.binds .any e = true → e.on < i := by
    intro i o ho e he hbd
    rw [List.all_eq_true] at h2
    have := h2 (o, i) (by rw [List.mem_zipIdx_iff_getElem?]; exact ho)
    simp only [Array.all_eq_true] at this
    obtain ⟨k, hk, rfl⟩ := Array.getElem_of_mem he
    have := this k hk
    rw [hbd] at this
    simpa using this
  have hdst : ∀ (i j : Nat) (oi oj : Oper) (d : Nat), l[i]? = some oi → l[j]? = some oj → oi.dst = some d → oj.dst = some d → i = j := nodup_dst l h3
  have hsz : ∀ (i : Nat) (o : Oper) (d : Nat), l[i]? = some o → o.dst = some d → d < a0.tmps.size := by
    intro i o d ho hd
    rw [List.all_eq_true] at h4
    have := h4 o (List.mem_of_getElem? ho)
    rw [hd] at this
    simpa using this
  have hlook : ∀ (i j : Nat) (oi oj : Oper) (s : Nat), l[i]? = some oi → s ∈ oi.looksAt l.toArray → l[j]? = some oj → oj.dst = some s → (j < i ∧ ∃ e ∈ oi.after, e.on = j ∧ Region.binds .any e = true) ∨ (i < j ∧ ∃ e ∈ oj.after, e.on = i ∧ Region.binds .any e = true) := by
    intro i j oi oj s hi hs hj hd
    rw [List.all_eq_true] at h5
    have := h5 (oi, i) (by rw [List.mem_zipIdx_iff_getElem?]; exact hi)
    rw [List.all_eq_true] at this
    have := this s hs
    rw [List.all_eq_true] at this
    have := this (oj, j) (by rw [List.mem_zipIdx_iff_getElem?]; exact hj)
    simp only [hd, bne_self_eq_false, Bool.false_or, Bool.or_eq_true, Bool.and_eq_true, decide_eq_true_eq, Array.any_eq_true] at this
    rcases this with ⟨hlt, k, hk, he⟩ | ⟨hlt, k, hk, he⟩
    · exact .inl ⟨hlt, _, Array.getElem_mem hk, by simpa using he.1, he.2⟩
    · exact .inr ⟨hlt, _, Array.getElem_mem hk, by simpa using he.1, he.2⟩
  have hN : l.toArray.size = l.length := by simp
  have hjob : ∀ i, i < l.length → ∃ j : Job, js[i]? = some j := fun i hi => ⟨_, List.getElem?_eq_getElem (by rw [hjl]; exact hi)⟩
  have key : ∀ (fuel : Nat) (listed : Array Bool) (a : Act) (w : World) (k : Nat) (vals : Nat → Value), listed.size = l.toArray.size → ((List.range l.toArray.size).filter fun j => !listed.getD j true).length ≤ fuel → fuel ≤ l.toArray.size → GoingW l js m JC a0 listed a w k vals →
      wpAny P .any l.toArray Q fuel listed a w := by
    have last : ∀ (listed : Array Bool) (a : Act) (w : World) (k : Nat) (vals : Nat → Value), listed.size = l.toArray.size → Region.ready .any l.toArray listed = [] → GoingW l js m JC a0 listed a w k vals → Q .normal a w := by
      intro listed a w k vals hs hr hg
      have all : ∀ i, i < l.length → listed.getD i false = true := by
        intro i
        induction i using Nat.strongRecOn with
        | ind i ih =>
          intro hi
          rcases hb : listed.getD i false with _ | _
          · exfalso
            have hmem : i ∈ Region.ready .any l.toArray listed := by
              unfold Region.ready
              simp only [List.mem_filter, List.mem_range, Bool.and_eq_true]
              refine ⟨by rw [hN]; exact hi, ?_, ?_⟩
              · have : listed.getD i true = listed.getD i false := by
                  simp [Array.getD_eq_getD_getElem?, Array.getElem?_eq_getElem (show i < listed.size by omega)]
                rw [this, hb]; rfl
              · have hlo : l.toArray[i]? = some l[i] := by simp [hi]
                rw [hlo]
                simp only [Option.map_some, Option.getD_some, Array.all_eq_true]
                intro j hj
                rcases hbd : Region.binds .any (l[i].after[j]) with _ | _
                · simp
                · have hlt := hback i l[i] (List.getElem?_eq_getElem hi) (l[i].after[j]) (Array.getElem_mem hj) hbd
                  have := ih _ hlt (by omega)
                  simp [this]
            rw [hr] at hmem; simp at hmem
          · rfl
      have hkm : k = m := by
        rcases Nat.lt_or_ge k m with h1 | h1
        · obtain ⟨i, hi⟩ := hexk k h1
          have hil : i < l.length := by
            rcases Nat.lt_or_ge i js.length with h | h
            · rw [← hjl]; exact h
            · rw [List.getElem?_eq_none h] at hi; cases hi
          have := (hg.chain i k hi).1 (all i hil)
          omega
        · exact Nat.le_antisymm hg.le h1
      have e : a = putAll a0 l (js.map (Job.val vals)) := by
        have et : a.tmps = (putAll a0 l (js.map (Job.val vals))).tmps := by
          apply Array.ext
          · rw [hg.size, putAll_size]
          · intro s hs1 hs2
            have : a.tmps.getD s undef = (putAll a0 l (js.map (Job.val vals))).tmps.getD s undef := by
              by_cases hx : ∃ (i : Nat) (o : Oper), l[i]? = some o ∧ o.dst = some s
              · obtain ⟨i, o, ho, hd⟩ := hx
                have hil : i < l.length := by
                  rcases Nat.lt_or_ge i l.length with h | h
                  · exact h
                  · rw [List.getElem?_eq_none h] at ho; cases ho
                obtain ⟨j, hj⟩ := hjob i hil
                rw [hg.done i o s j ho (all i hil) hd hj, putAll_at l _ a0 s i o (j.val vals) ho hd (by rw [List.getElem?_map, hj]; rfl) (hsz i o s ho hd) (fun k' o' hk hd' => hdst k' i o' o s hk ho hd' hd)]
              · have hx' : ∀ (i : Nat) (o : Oper), l[i]? = some o → o.dst ≠ some s := fun i o ho hd => hx ⟨i, o, ho, hd⟩
                rw [hg.others s hx', putAll_other l _ a0 s hx']
            simpa [Array.getD_eq_getD_getElem?, hs1, hs2] using this
        have ed : a.defers = (putAll a0 l (js.map (Job.val vals))).defers := by rw [hg.defers, putAll_defers]
        cases a; cases hp : putAll a0 l (js.map (Job.val vals))
        rw [hp] at et ed
        simp only at et ed
        rw [et, ed]
      rw [e]
      exact hfin w vals (hkm ▸ hg.world)
    intro fuel
    induction fuel with
    | zero =>
      intro listed a w k vals hs hn hfu hg
      have hr : Region.ready .any l.toArray listed = [] := by
        have h0 : ((List.range l.toArray.size).filter fun j => !listed.getD j true) = [] := List.eq_nil_of_length_eq_zero (by omega)
        unfold Region.ready
        rw [List.filter_eq_nil_iff] at h0 ⊢
        intro j hj hc
        exact h0 j hj (by simp only [Bool.and_eq_true] at hc; exact hc.1)
      exact ⟨hr, last listed a w k vals hs hr hg⟩
    | succ fuel ih =>
      intro listed a w k vals hs hn hfu hg
      refine ⟨fun hr => last listed a w k vals hs hr hg, fun i hi => ?_⟩
      unfold Region.ready at hi
      simp only [List.mem_filter, List.mem_range, Bool.and_eq_true] at hi
      obtain ⟨hlt0, hu, haf⟩ := hi
      have hlt' : i < l.length := by rw [← hN]; exact hlt0
      have ho : l.toArray[i]? = some l[i] := by simp [hlt']
      have hol : l[i]? = some l[i] := List.getElem?_eq_getElem hlt'
      have hu' : listed.getD i true = false := by simpa using hu
      have hfi : listed.getD i false ≠ true := by
        intro h
        have : listed.getD i true = listed.getD i false := by
          simp [Array.getD_eq_getD_getElem?, Array.getElem?_eq_getElem (show i < listed.size by omega)]
        rw [hu', h] at this; cases this
      have hpre : ∀ e ∈ l[i].after, Region.binds .any e = true → listed.getD e.on false = true := by
        intro e he hbind
        rw [ho] at haf
        simp only [Option.map_some, Option.getD_some, Array.all_eq_true] at haf
        obtain ⟨q, hq, rfl⟩ := Array.getElem_of_mem he
        have := haf q hq
        simpa [hbind] using this
      obtain ⟨job, hj⟩ := hjob i hlt'
      have hst := SeqS.get l js a0 (h vals) i l[i] job hol hj
      obtain ⟨A, hA⟩ : ∃ A, putAll a0 (l.take i) ((js.take i).map (Job.val vals)) = A := ⟨_, rfl⟩
      rw [hA] at hst
      have hAs : A.tmps.size = a0.tmps.size := by rw [← hA, putAll_size]
      have look : ∀ s ∈ l[i].looksAt l.toArray, A.tmps.getD s undef = a.tmps.getD s undef := by
        intro s hsl
        by_cases hx : ∃ (j : Nat) (o : Oper), l[j]? = some o ∧ o.dst = some s
        · obtain ⟨j, o, hj2, hd⟩ := hx
          rcases hlook i j l[i] o s hol hsl hj2 hd with ⟨hji, e, he, hej, heb⟩ | ⟨hij, e, he, hei, heb⟩
          · obtain ⟨jj, hjj⟩ := hjob j (by omega)
            have hls := hpre e he heb
            rw [hej] at hls
            rw [hg.done j o s jj hj2 hls hd hjj, ← hA]
            refine putAll_at _ _ a0 s j o _ (by rw [List.getElem?_take_of_lt hji]; exact hj2) hd (by rw [List.getElem?_map, List.getElem?_take_of_lt hji, hjj]; rfl) (hsz j o s hj2 hd) (fun k' o' hk hd' => ?_)
            rw [List.getElem?_take] at hk
            split at hk
            · exact hdst k' j o' o s hk hj2 hd' hd
            · cases hk
          · have hjn : listed.getD j false ≠ true := fun h => by
              have := hg.down j o h hj2 e he heb
              rw [hei] at this
              exact hfi this
            rw [hg.still j o s hj2 hjn hd, ← hA]
            refine putAll_other _ _ a0 s (fun k' o' hk hd' => ?_)
            rw [List.getElem?_take] at hk
            split at hk
            · have := hdst k' j o' o s hk hj2 hd' hd; omega
            · cases hk
        · have hx' : ∀ (i : Nat) (o : Oper), l[i]? = some o → o.dst ≠ some s := fun i o ho hd => hx ⟨i, o, ho, hd⟩
          rw [hg.others s hx', ← hA, putAll_other _ _ a0 s (fun k' o' hk => by
            rw [List.getElem?_take] at hk
            split at hk
            · exact hx' k' o' hk
            · cases hk)]
      have hexec : execOp A.eval l[i] = execOp a.eval l[i] := by
        refine execOp_congr l[i] (hsel i l[i] hol) fun x hx => ?_
        cases x with
        | tmp t =>
          refine look t ?_
          unfold Oper.looksAt
          exact List.mem_append_left _ (List.mem_filterMap.2 ⟨.tmp t, by simpa using hx, rfl⟩)
        | _ => rfl
      have hset : ∀ u, (listed.setIfInBounds i true).getD u false = true ↔ u = i ∨ listed.getD u false = true := by
        intro u
        by_cases hui : i = u
        · subst hui
          simp [Array.getD_eq_getD_getElem?, hs, hlt']
        · have hne : ¬ u = i := fun e => hui e.symm
          simp [Array.getD_eq_getD_getElem?, hui, hne]
      have go : ∀ (w' : World) (u : Value) (k' : Nat) (vals' : Nat → Value), JC k' w' vals' → k' ≤ m → (∀ (i' kk : Nat), js[i']? = some (.chain kk) → ((listed.setIfInBounds i true).getD i' false = true ↔ kk < k')) →
          (∀ (i' : Nat) (j' : Job), js[i']? = some j' → listed.getD i' false = true → j'.val vals' = j'.val vals) → job.val vals' = u → wpAny P .any l.toArray Q fuel (listed.setIfInBounds i true) (a.put l[i].dst u) w' := fun w' u k' vals' hw' hk' hc' hv' hu2 => by
        refine ih _ _ _ k' vals' (by simp [hs]) (open_less hlt0 hs hu' hn) (by omega) ⟨hw', hk', hc', ?_, by rw [put_defers', hg.defers], by rw [put_size, hg.size], fun s hs' => ?_, fun j oj d jj hjl' hlj hd hjj => ?_, fun j oj d hjl' hlj hd => ?_⟩
        · intro v o hv hov e he hbd
          rw [hset] at hv ⊢
          rcases hv with rfl | hv
          · rw [hol] at hov; injection hov with hov; subst hov
            exact .inr (hpre e he hbd)
          · exact .inr (hg.down v o hv hov e he hbd)
        · rw [put_ne a u (hs' i l[i] hol), hg.others s hs']
        · by_cases hji : i = j
          · subst hji
            rw [hol] at hjl'; injection hjl' with hjl'
            rw [← hjl'] at hd
            rw [hj] at hjj; injection hjj with hjj
            rw [hd, ← hjj, hu2]
            exact put_eq a u (by rw [hg.size]; exact hsz i _ d hol hd)
          · have hl' : listed.getD j false = true := by
              simpa [Array.getD_eq_getD_getElem?, Array.getElem?_setIfInBounds, hji] using hlj
            rw [put_ne a u (fun e => hji (hdst i j _ _ d hol hjl' e hd)), hg.done j oj d jj hjl' hl' hd hjj]
            exact (hv' j jj hjj hl').symm
        · have hji : i ≠ j := fun e => hlj (by rw [hset]; exact .inl e.symm)
          rw [put_ne a u (fun e => hji (hdst i j _ _ d hol hjl' e hd))]
          exact hg.still j oj d hjl' (fun h => hlj (by rw [hset]; exact .inr h)) hd
      unfold wpOp
      rw [ho]
      have hw : Region.wanted l[i] (yielded l.toArray a.tmps) = true := by
        unfold Region.wanted; rw [hguard i _ hol]
      simp only [hw, if_true]
      cases job with
      | quiet v kq =>
        have hkq : k ≤ kq := by
          rcases Nat.lt_or_ge kq k with h1 | h1
          · exfalso
            obtain ⟨j, hjc⟩ := hexk kq (Nat.lt_of_lt_of_le h1 hg.le)
            have hjl2 : j < l.length := by
              rcases Nat.lt_or_ge j js.length with h | h
              · rw [← hjl]; exact h
              · rw [List.getElem?_eq_none h] at hjc; cases hjc
            obtain ⟨e, he, hb, hei⟩ := htake i j kq v l[j] hj hjc (List.getElem?_eq_getElem hjl2)
            have := hg.down j l[j] ((hg.chain j kq hjc).2 h1) (List.getElem?_eq_getElem hjl2) e he hb
            rw [hei] at this
            exact hfi this
          · exact h1
        refine .inl (Oper.wp_mono ?_ (wp_other' hexec (by rw [hg.size, hAs]) (hst k hkq w hg.world)))
        rintro a' w' ⟨u, rfl, rfl, hjw⟩
        refine go _ _ k vals (by rcases hjw with h1 | h1 <;> first | exact h1 | (rw [h1]; exact hg.world)) hg.le (fun i' kk hi' => ?_) (fun _ _ _ _ => rfl) rfl
        rw [hset, ← hg.chain i' kk hi']
        constructor
        · rintro (rfl | h1)
          · rw [hj] at hi'; cases hi'
          · exact h1
        · exact .inr
      | chain kk =>
        have hkk : kk = k := by
          have h1 : ¬ kk < k := fun h1 => hfi ((hg.chain i kk hj).2 h1)
          rcases Nat.lt_or_ge k kk with h2 | h2
          · exfalso
            obtain ⟨kp, rfl⟩ : ∃ kp, kk = kp + 1 := ⟨kk - 1, by omega⟩
            obtain ⟨e, he, hb, hep⟩ := hprev i kp l[i] hj hol
            have := (hg.chain e.on kp hep).1 (hpre e he hb)
            omega
          · omega
        subst hkk
        refine .inl (Oper.wp_mono ?_ (wp_other' hexec (by rw [hg.size, hAs]) (hst w hg.world)))
        rintro a' w' ⟨u, rfl, hjc⟩
        refine go _ u (kk + 1) (upd vals kk u) hjc (hlt i kk hj) (fun i' kk' hi' => ?_) (fun i' j' hi' hl' => ?_) (by simp [Job.val, upd])
        · rw [hset, hg.chain i' kk' hi']
          constructor
          · rintro (rfl | h1)
            · rw [hj] at hi'; injection hi' with hi'; injection hi' with hi'; omega
            · omega
          · intro h1
            rcases Nat.lt_or_ge kk' kk with h2 | h2
            · exact .inr h2
            · have : kk' = kk := by omega
              subst this
              exact .inl (hone i i' kk' hj hi')
        · cases j' with
          | quiet v kq => rfl
          | chain k2 =>
            have := (hg.chain i' k2 hi').1 hl'
            simp [Job.val, upd, show k2 ≠ kk by omega]
  obtain ⟨vals0, hJ0⟩ := hJ
  refine wp_region_any hm (key l.toArray.size _ a0 w0.drew 0 vals0 (by simp) ?_ (Nat.le_refl _) ⟨hJ0, Nat.zero_le _, fun i kk _ => ?_, fun u o hl => ?_, rfl, rfl, fun _ _ => rfl, fun i o d v ho hl _ _ => ?_, fun _ _ _ _ _ _ => rfl⟩)
  · exact Nat.le_trans (List.length_filter_le _ _) (by simp)
  · constructor
    · intro hl
      exfalso
      by_cases hu : i < l.length <;> simp [Array.getD_eq_getD_getElem?, hu] at hl
    · intro h; omega
  · exfalso
    by_cases hu : u < l.length <;> simp [Array.getD_eq_getD_getElem?, hu] at hl
  · exfalso
    by_cases hu : i < l.length <;> simp [Array.getD_eq_getD_getElem?, hu] at hl
end
end Go.Proofs.YtpfombelhajmlaaGreatDoor

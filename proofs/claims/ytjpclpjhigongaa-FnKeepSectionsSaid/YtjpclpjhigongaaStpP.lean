/-
  Stripping in plain words: which symbols stay, and how they are numbered anew.
-/
import Derived.Test.YtjpclpjhigongaaCopO
import Derived.Test.YtjpclpjhigongaaObjV
namespace Go.Proofs.Ytjpclpjhigongaa
open Go.RowKit

/-- A fixup of a section uses a symbol. -/
def usesF (n : Int) (s : Sx) : Bool := s.fixs.any fun f => decide (f.to = n)
def usedB (ss : List Sx) (n : Int) : Bool := ss.any (usesF n)
/-- Those of the symbols that are kept. -/
def keptL : List Bool → List Sm → List Sm
  | b :: bs, m :: ms => if b then m :: keptL bs ms else keptL bs ms
  | _, _ => []
/-- How many are kept ahead of a number. -/
def keptN (bs : List Bool) (n : Int) : Int := (((bs.take n.toNat).countP id : Nat) : Int)
theorem keptL_snoc : ∀ (bs : List Bool) (ms : List Sm) (b : Bool) (m : Sm), bs.length = ms.length → keptL (bs ++ [b]) (ms ++ [m]) = keptL bs ms ++ if b then [m] else []
  | [], [], b, m, _ => by cases b <;> simp [keptL]
  | c :: bs, x :: ms, b, m, h => by
    have ih := keptL_snoc bs ms b m (by simpa using h)
    simp only [List.cons_append, keptL, ih]
    split <;> simp
  | [], _ :: _, _, _, h => by simp at h
  | _ :: _, [], _, _, h => by simp at h
theorem keptL_length : ∀ (bs : List Bool) (ms : List Sm), bs.length = ms.length → (keptL bs ms).length = bs.countP id
  | [], [], _ => by simp [keptL]
  | c :: bs, x :: ms, h => by
    have ih := keptL_length bs ms (by simpa using h)
    cases c <;> simp [keptL, ih]
  | [], _ :: _, h => by simp at h
  | _ :: _, [], h => by simp at h
theorem keptL_le (bs : List Bool) (ms : List Sm) (h : bs.length = ms.length) : (keptL bs ms).length ≤ ms.length := by
  rw [keptL_length bs ms h, ← h]; exact List.countP_le_length
theorem keptL_mem : ∀ (bs : List Bool) (ms : List Sm) (m : Sm), m ∈ keptL bs ms → m ∈ ms
  | [], _, m, h => by simp [keptL] at h
  | _ :: _, [], m, h => by simp [keptL] at h
  | b :: bs, x :: ms, m, h => by
    unfold keptL at h
    split at h
    · rcases List.mem_cons.1 h with h | h
      · rw [h]; exact List.mem_cons_self
      · exact List.mem_cons_of_mem _ (keptL_mem bs ms m h)
    · exact List.mem_cons_of_mem _ (keptL_mem bs ms m h)
/-- The symbols of a section's fixups are numbered anew. -/
def fixTo (t : Int → Int) (s : Sx) : Sx := { s with fixs := s.fixs.map fun f => f.re (t f.to) }
/-- The first sections' fixups are numbered anew, and the first fixups of the next one. -/
def renum (t : Int → Int) (k j : Nat) (ss : List Sx) : List Sx :=
  ss.mapIdx fun i s => { s with fixs := s.fixs.mapIdx fun p f => if i < k ∨ (i = k ∧ p < j) then f.re (t f.to) else f }
theorem renum_start (t : Int → Int) (ss : List Sx) : renum t 0 0 ss = ss := by
  unfold renum
  apply List.ext_getElem?
  intro i
  rw [List.getElem?_mapIdx]
  cases ss[i]? with
  | none => rfl
  | some s =>
    simp only [Option.map_some]
    congr 1
    have : s.fixs.mapIdx (fun p f => if i < 0 ∨ (i = 0 ∧ p < 0) then f.re (t f.to) else f) = s.fixs := by
      apply List.ext_getElem?
      intro p
      rw [List.getElem?_mapIdx]
      cases s.fixs[p]? with
      | none => rfl
      | some f => simp
    rw [this]
theorem renum_step (t : Int → Int) (k j : Nat) (ss : List Sx) (h : ∀ s, ss[k]? = some s → s.fixs.length ≤ j) : renum t k j ss = renum t (k + 1) 0 ss := by
  unfold renum
  apply List.ext_getElem?
  intro i
  rw [List.getElem?_mapIdx, List.getElem?_mapIdx]
  cases hs : ss[i]? with
  | none => rfl
  | some s =>
    simp only [Option.map_some]
    congr 1
    have : s.fixs.mapIdx (fun p f => if i < k ∨ (i = k ∧ p < j) then f.re (t f.to) else f) = s.fixs.mapIdx (fun p f => if i < k + 1 ∨ (i = k + 1 ∧ p < 0) then f.re (t f.to) else f) := by
      apply List.ext_getElem?
      intro p
      rw [List.getElem?_mapIdx, List.getElem?_mapIdx]
      cases hp : s.fixs[p]? with
      | none => rfl
      | some f =>
        simp only [Option.map_some]
        congr 1
        have hpl := (List.getElem?_eq_some_iff.1 hp).1
        by_cases hik : i = k
        · subst hik
          have := h s hs
          rw [if_pos (.inr ⟨rfl, by omega⟩), if_pos (.inl (by omega))]
        · by_cases hlt : i < k
          · rw [if_pos (.inl hlt), if_pos (.inl (by omega))]
          · rw [if_neg (by omega), if_neg (by omega)]
    rw [this]
theorem renum_all (t : Int → Int) (k : Nat) (ss : List Sx) (h : ss.length ≤ k) : renum t k 0 ss = ss.map (fixTo t) := by
  unfold renum
  apply List.ext_getElem?
  intro i
  rw [List.getElem?_mapIdx, List.getElem?_map]
  cases hs : ss[i]? with
  | none => rfl
  | some s =>
    simp only [Option.map_some]
    congr 1
    unfold fixTo
    have hil := (List.getElem?_eq_some_iff.1 hs).1
    have : s.fixs.mapIdx (fun p f => if i < k ∨ (i = k ∧ p < 0) then f.re (t f.to) else f) = s.fixs.map fun f => f.re (t f.to) := by
      apply List.ext_getElem?
      intro p
      rw [List.getElem?_mapIdx, List.getElem?_map]
      cases s.fixs[p]? with
      | none => rfl
      | some f => simp only [Option.map_some]; rw [if_pos (.inl (by omega))]
    rw [this]
/-- The next fixup is numbered anew, in place. -/
theorem renum_next {t : Int → Int} {k j : Nat} {ss : List Sx} {L : List Sp} (hL : L.map Sp.s = renum t k j ss) {s : Sx} (hs : ss[k]? = some s) {f : Fx} (hf : s.fixs[j]? = some f) :
    ∃ y, L[k]? = some y ∧ y.s.fixs[j]? = some f ∧ y.s.fixs.length = s.fixs.length ∧ (L.set k (y.to j f (t f.to))).map Sp.s = renum t k (j + 1) ss := by
  have h1 : (L.map Sp.s)[k]? = some { s with fixs := s.fixs.mapIdx fun p f => if k < k ∨ (k = k ∧ p < j) then f.re (t f.to) else f } := by
    rw [hL]; unfold renum; rw [List.getElem?_mapIdx, hs]; rfl
  rw [List.getElem?_map] at h1
  obtain ⟨y, hy, hys⟩ := Option.map_eq_some_iff.1 h1
  have hyf : y.s.fixs = s.fixs.mapIdx fun p f => if k < k ∨ (k = k ∧ p < j) then f.re (t f.to) else f := by rw [hys]
  refine ⟨y, hy, ?_, ?_, ?_⟩
  · rw [hyf, List.getElem?_mapIdx, hf]; simp
  · rw [hyf, List.length_mapIdx]
  rw [List.map_set, hL]
  apply List.ext_getElem?
  intro i
  have hkl : k < (renum t k j ss).length := by unfold renum; rw [List.length_mapIdx]; exact (List.getElem?_eq_some_iff.1 hs).1
  rw [List.getElem?_set]
  by_cases hik : k = i
  · subst hik
    rw [if_pos rfl, if_pos hkl]
    unfold renum
    rw [List.getElem?_mapIdx, hs]
    simp only [Option.map_some]
    congr 1
    unfold Sp.to
    rw [hys]
    simp only
    congr 1
    apply List.ext_getElem?
    intro p
    rw [List.getElem?_set, List.getElem?_mapIdx, List.getElem?_mapIdx, List.length_mapIdx]
    have hjl := (List.getElem?_eq_some_iff.1 hf).1
    by_cases hpj : j = p
    · subst hpj
      rw [if_pos rfl, if_pos hjl, hf]; simp
    · rw [if_neg hpj]
      cases s.fixs[p]? with
      | none => rfl
      | some g =>
        simp only [Option.map_some]
        congr 1
        by_cases hp : p < j
        · rw [if_pos (.inr ⟨trivial, hp⟩), if_pos (.inr ⟨trivial, by omega⟩)]
        · rw [if_neg (by omega), if_neg (by omega)]
  · rw [if_neg hik]
    unfold renum
    rw [List.getElem?_mapIdx, List.getElem?_mapIdx]
    cases ss[i]? with
    | none => rfl
    | some s' =>
      simp only [Option.map_some]
      congr 1
      have : s'.fixs.mapIdx (fun p f => if i < k ∨ (i = k ∧ p < j) then f.re (t f.to) else f) = s'.fixs.mapIdx (fun p f => if i < k ∨ (i = k ∧ p < j + 1) then f.re (t f.to) else f) := by
        apply List.ext_getElem?
        intro p
        rw [List.getElem?_mapIdx, List.getElem?_mapIdx]
        cases s'.fixs[p]? with
        | none => rfl
        | some g =>
          simp only [Option.map_some]
          congr 1
          by_cases hlt : i < k
          · rw [if_pos (.inl hlt), if_pos (.inl hlt)]
          · rw [if_neg (by omega), if_neg (by omega)]
      rw [this]
theorem renum_at {t : Int → Int} {k j : Nat} {ss : List Sx} {L : List Sp} (hL : L.map Sp.s = renum t k j ss) {s : Sx} (hs : ss[k]? = some s) : ∃ y, L[k]? = some y ∧ y.s.fixs.length = s.fixs.length := by
  have h1 : (L.map Sp.s)[k]? = some { s with fixs := s.fixs.mapIdx fun p f => if k < k ∨ (k = k ∧ p < j) then f.re (t f.to) else f } := by
    rw [hL]; unfold renum; rw [List.getElem?_mapIdx, hs]; rfl
  rw [List.getElem?_map] at h1
  obtain ⟨y, hy, hys⟩ := Option.map_eq_some_iff.1 h1
  exact ⟨y, hy, by rw [hys]; simp⟩
theorem renum_length {t : Int → Int} {k j : Nat} {ss : List Sx} {L : List Sp} (hL : L.map Sp.s = renum t k j ss) : L.length = ss.length := by
  have := congrArg List.length hL
  unfold renum at this
  rwa [List.length_map, List.length_mapIdx] at this
theorem fixs_to (n many : Int) : ∀ (e : Int) (fs : List Fx), fixsOk n many e fs = true → ∀ f ∈ fs, 0 ≤ f.to ∧ f.to < many
  | _, [], _, f, hf => by cases hf
  | e, g :: r, h, f, hf => by
    simp only [fixsOk, Bool.and_eq_true] at h
    rcases List.mem_cons.1 hf with rfl | hf
    · have := h.1
      unfold fixOk at this
      simp only [Bool.and_eq_true, decide_eq_true_eq] at this
      exact ⟨this.1.1.1.2, this.1.1.2⟩
    · exact fixs_to n many _ r h.2 f hf
/-- What a valid object's parts are. -/
theorem objOk_parts {ss : List Sx} {ms : List Sm} (h : objOk ss ms = true) : ss.length ≤ 8 ∧ ms.length ≤ 12 ∧ ∀ s ∈ ss, s.bytes.length ≤ 48 ∧ s.fixs.length ≤ 6 ∧ ∀ f ∈ s.fixs, 0 ≤ f.to ∧ f.to < ms.length := by
  unfold objOk at h
  simp only [Bool.and_eq_true, decide_eq_true_eq, List.all_eq_true] at h
  refine ⟨h.2.2.1, h.2.2.2, fun s hs => ?_⟩
  have hk := h.1 s hs
  unfold sectOk at hk
  simp only [Bool.and_eq_true, decide_eq_true_eq] at hk
  obtain ⟨⟨⟨⟨⟨⟨_, _⟩, _⟩, h4⟩, h5⟩, _⟩, h7⟩ := hk
  refine ⟨h4, h5, fun f hf => ?_⟩
  split at h7
  · simp only [Bool.and_eq_true, decide_eq_true_eq] at h7
    have := List.eq_nil_of_length_eq_zero h7.2
    rw [this] at hf; cases hf
  · simp only [Bool.and_eq_true] at h7
    exact fixs_to _ _ _ _ h7.1 f hf
/-- Which symbols stay: those that may not go, and those that fixups use. -/
def stays (go : Sm → Bool) (ss : List Sx) (ms : List Sm) : List Bool := ms.mapIdx fun k m => !go m || usedB ss (k : Nat)
theorem stays_length (go : Sm → Bool) (ss : List Sx) (ms : List Sm) : (stays go ss ms).length = ms.length := by unfold stays; rw [List.length_mapIdx]
theorem stays_at {go : Sm → Bool} {ss : List Sx} {ms : List Sm} {k : Nat} {m : Sm} (h : ms[k]? = some m) : (stays go ss ms)[k]? = some (!go m || usedB ss (k : Nat)) := by unfold stays; rw [List.getElem?_mapIdx, h]; rfl
/-- The symbols that may go. -/
def isLocal (m : Sm) : Bool := decide (m.bind = 0)
def isWanted (m : Sm) : Bool := decide (m.loc = -1)
/-- What is left of a valid object without those symbols that may go and that no fixup uses. -/
def stripA (go : Sm → Bool) (ss : List Sx) (ms : List Sm) : List Sx × List Sm :=
  if objOk ss ms then (ss.map (fixTo (keptN (stays go ss ms))), keptL (stays go ss ms) ms) else ([], [])
/-- A valid object with names hidden. -/
def stayB (keep : List ByteArray) (m : Sm) : Bool := decide (m.loc = -1) || keep.any fun x => decide (x = m.name)
def hideM (keep : List ByteArray) (m : Sm) : Sm := if stayB keep m then m else { m with bind := 0 }
def hideA (keep : List ByteArray) (ss : List Sx) (ms : List Sm) : List Sx × List Sm := if objOk ss ms then (ss, ms.map (hideM keep)) else ([], [])
/-- The first symbols' names are hidden. -/
def hidN (keep : List ByteArray) (k : Nat) (ms : List Sm) : List Sm := (ms.take k).map (hideM keep) ++ ms.drop k
theorem hidN_start (keep : List ByteArray) (ms : List Sm) : hidN keep 0 ms = ms := by simp [hidN]
theorem hidN_length (keep : List ByteArray) (k : Nat) (ms : List Sm) : (hidN keep k ms).length = ms.length := by
  unfold hidN
  rw [List.length_append, List.length_map, List.length_take, List.length_drop]; omega
theorem hidN_at {keep : List ByteArray} {k : Nat} {ms : List Sm} {m : Sm} (h : ms[k]? = some m) : (hidN keep k ms)[k]? = some m := by
  have hk := (List.getElem?_eq_some_iff.1 h).1
  unfold hidN
  rw [List.getElem?_append_right (by rw [List.length_map, List.length_take]; omega), List.length_map, List.length_take, Nat.min_eq_left (by omega), Nat.sub_self, List.getElem?_drop]
  exact h
theorem hidN_next {keep : List ByteArray} {k : Nat} {ms : List Sm} {m : Sm} (h : ms[k]? = some m) : hidN keep (k + 1) ms = (hidN keep k ms).set k (hideM keep m) := by
  have hk := (List.getElem?_eq_some_iff.1 h).1
  unfold hidN
  have hl : ((ms.take k).map (hideM keep)).length = k := by rw [List.length_map, List.length_take]; omega
  rw [List.set_append_right _ _ (by omega), hl, Nat.sub_self, List.take_add_one, h]
  have hd : ms.drop k = m :: ms.drop (k + 1) := by
    rw [List.drop_eq_getElem_cons hk]
    rw [List.getElem?_eq_getElem hk] at h
    injection h with h
    rw [h]
  rw [hd]
  simp
theorem hidN_all (keep : List ByteArray) (ms : List Sm) : hidN keep ms.length ms = ms.map (hideM keep) := by simp [hidN]
theorem hide_yes {keep : List ByteArray} {k : Nat} {ms : List Sm} {m : Sm} (h : ms[k]? = some m) (hc : stayB keep m = true) : hidN keep (k + 1) ms = hidN keep k ms := by
  rw [hidN_next h]
  unfold hideM
  rw [if_pos hc]
  have hg := hidN_at (keep := keep) h
  have hk := (List.getElem?_eq_some_iff.1 hg)
  apply List.ext_getElem?
  intro i
  rw [List.getElem?_set]
  split
  · rename_i e; subst e; rw [if_pos hk.1, hg]
  · rfl
theorem hide_no {keep : List ByteArray} {k : Nat} {ms : List Sm} {m : Sm} (h : ms[k]? = some m) (hc : stayB keep m = false) : hidN keep (k + 1) ms = (hidN keep k ms).set k { m with bind := 0 } := by
  rw [hidN_next h]
  unfold hideM
  rw [hc]; rfl

end Go.Proofs.Ytjpclpjhigongaa

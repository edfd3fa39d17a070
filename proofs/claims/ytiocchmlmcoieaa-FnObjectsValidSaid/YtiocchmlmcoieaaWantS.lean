/-
  spec.NamesWanted and spec.NamesGiven.
-/
import Derived.Test.YtiocchmlmcoieaaObjV
import Derived.Test.YtiocchmlmcoieaaInsertS
import Derived.Test.YtiocchmlmcoieaaMem
namespace Go.Proofs.Ytiocchmlmcoieaa
open Go.RowKit

/-- The names of the symbols of a kind, by their bytes, each once. -/
def namesOf (p : Sm → Bool) (ms : List Sm) : List ByteArray := ((ms.filter p).map Sm.name).foldl insertS []
def wants (m : Sm) : Bool := decide (m.loc = -1)
def gives (m : Sm) : Bool := decide (m.loc ≠ -1) && decide (m.bind ≠ 0)
/-- The names, where the object is valid. -/
def namesIf (p : Sm → Bool) (ss : List Sx) (ms : List Sm) : List ByteArray := if objOk ss ms then namesOf p ms else []
theorem namesOf_length (p : Sm → Bool) : ∀ (ms : List Sm) (S : List ByteArray), (((ms.filter p).map Sm.name).foldl insertS S).length ≤ S.length + ms.length
  | [], S => by simp
  | m :: r, S => by
    rcases h : p m with _ | _
    · rw [List.filter_cons_of_neg (by simp [h])]
      have := namesOf_length p r S
      simp only [List.length_cons]; omega
    · rw [List.filter_cons_of_pos h, List.map_cons, List.foldl_cons]
      have h1 := namesOf_length p r (insertS S m.name)
      have h2 := insertS_length S m.name
      simp only [List.length_cons]; omega
theorem namesOf_snoc {p : Sm → Bool} {ms : List Sm} {k : Nat} {x : Sm} (h : ms[k]? = some x) : namesOf p (ms.take (k + 1)) = if p x then insertS (namesOf p (ms.take k)) x.name else namesOf p (ms.take k) := by
  have e : ms.take (k + 1) = ms.take k ++ [x] := by rw [List.take_add_one, h]; rfl
  unfold namesOf
  rw [e, List.filter_append, List.map_append, List.foldl_append]
  rcases hp : p x with _ | _
  · rw [List.filter_cons_of_neg (by simp [hp])]; simp
  · rw [List.filter_cons_of_pos hp]; simp
/-- What the names' functions answer: a row of its own. -/
def Named (w : World) (S : List ByteArray) (e : Ending) (w' : World) : Prop :=
  ∃ b off c, e = .returned (.slice (some ⟨b, off, none⟩) S.length c) ∧ S.length ≤ c ∧ c ≤ maxLen ∧ b < w'.heap.size ∧ (∀ i u, (S.map Value.string)[i]? = some u → w'.cell? ⟨b, off + i, none⟩ = some u) ∧ Below w.heap.size w w'



































































































set_option maxRecDepth 100000 in
set_option maxHeartbeats 4000000 in
theorem namesGiven'_any (w : World) (B : Nat) (a1 a2 : Option Addr) (c1 c2 n m : Nat) (l : List Sp) (ms : List Sm) (hn : n = l.length) (hm : m = ms.length) (h1 : Sects w B a1 l) (h2 : Syms w B a2 ms) (hB : B ≤ w.heap.size) (hlen : n ≤ 9223372036854775807) (hlem : m ≤ 9223372036854775807)
    (hl : ∀ y ∈ l, y.s.lens) (hs : ∀ x ∈ ms, x.name.size ≤ maxLen) :
    Calls Try.prog 49 #[.agg #[.slice a1 n c1, .slice a2 m c2]] w (Named w (namesIf gives (l.map Sp.s) ms)) := by
  have HOB := hidden (fun (W : World) (hW : Below w.heap.size w W) => objectValid'_any W B a1 a2 c1 c2 n m l ms hn hm (h1.below (hW.mono hB)) (h2.below (hW.mono hB)) (Nat.le_trans hB hW.size) hlen hlem hl hs)
  obtain ⟨ok, hok⟩ : ∃ ok, objOk (l.map Sp.s) ms = ok := ⟨_, rfl⟩
  have hok12 : Hid (ok = true → m ≤ 12) := fun e => by
    rw [← hok] at e; unfold objOk at e; simp at e; rw [hm]; exact e.2.2.2
  have HRES : Hid (namesIf gives (l.map Sp.s) ms = if ok then namesOf gives ms else []) := by show _ = _; unfold namesIf; rw [hok]
  rw [hok] at HOB
  have HM := hidden hm
  have H2 := hidden h2
  clear hok hn hm h1 h2 hl hs
  go_enter Try.func49, Try.ntmps49
  go_wp2_with fail
  have hb0 : Below w.heap.size w (w.alloc (.cells #[.slice a1 n c1, .slice a2 m c2] 29)) := (Below.refl _ _).alloc (Nat.le_refl _) _
  have hbx : Below (w.heap.size + 1) (w.alloc (.cells #[.slice a1 n c1, .slice a2 m c2] 29)) ((w.alloc (.cells #[.slice a1 n c1, .slice a2 m c2] 29)).alloc (.cells #[] 9)) := (Below.refl _ _).alloc (by simp) _
  go_loopw [3, 4] (fun v i wr => ∃ (k b off c : Nat) (S : List ByteArray), i = .int .i64 k ∧ k ≤ m ∧ v = .slice (some ⟨b, off, none⟩) S.length c ∧ Hid (S.length ≤ c ∧ c ≤ maxLen ∧ b < wr.heap.size ∧ ∀ i u, (S.map Value.string)[i]? = some u → wr.cell? ⟨b, off + i, none⟩ = some u) ∧ Hid (S = namesOf gives (ms.take k)) ∧ S.length ≤ k ∧
      (0 < k → ok = true) ∧ Below (w.heap.size + 1) (w.alloc (.cells #[.slice a1 n c1, .slice a2 m c2] 29)) wr) (fun _ i _ => m - (intOf i).toNat)
  case atStart => exact ⟨0, w.heap.size + 1, 0, 0, [], rfl, Nat.zero_le _, rfl, ⟨by simp, Nat.zero_le _, by simp, by simp⟩, hidden (by simp [namesOf]), by simp, by omega, hbx⟩
  case round =>
    obtain ⟨k, b, off, c, S, rfl, hk, rfl, hheld, hfold, hSk, hko, hbw⟩ := hrel
    have hbx0 : Below w.heap.size w wr := hb0.trans (hbw.mono (Nat.le_succ _))
    have q0 : wr.cell? ⟨w.heap.size, 0, none⟩ = some (.slice a1 n c1) := (hbw.cell (Nat.lt_succ_self _)).trans ((Has.new w 29 _).cell 0)
    have q1 : wr.cell? ⟨w.heap.size, 1, none⟩ = some (.slice a2 m c2) := (hbw.cell (Nat.lt_succ_self _)).trans ((Has.new w 29 _).cell 1)
    clear hbx
    by_cases hlt : k < m
    · have hi : (k : Int) < (m : Int) := by omega
      go_wp2_with fail
      refine (HOB.out wr hbx0).mono ?_
      rintro e w2 ⟨rfl, hb2⟩
      have hbw2 : Below (w.heap.size + 1) (w.alloc (.cells #[.slice a1 n c1, .slice a2 m c2] 29)) w2 := hbw.trans (hb2.mono (by have := hbw.size; simpa using this))
      have hbx2 : Below w.heap.size w w2 := hbx0.trans (hb2.mono hbx0.size)
      have hheld2 : Hid (S.length ≤ c ∧ c ≤ maxLen ∧ b < w2.heap.size ∧ ∀ i u, (S.map Value.string)[i]? = some u → w2.cell? ⟨b, off + i, none⟩ = some u) :=
        ⟨hheld.out.1, hheld.out.2.1, Nat.lt_of_lt_of_le hheld.out.2.2.1 hb2.size, fun i u hu => (hb2.cell (by show b < _; exact hheld.out.2.2.1)).trans (hheld.out.2.2.2 i u hu)⟩
      clear hheld hb2 hbw hbx0 q0 q1
      rcases ok with _ | _
      · have hk0 : k = 0 := by
          rcases Nat.eq_zero_or_pos k with h | h
          · exact h
          · exact absurd (hko h) (by simp)
        have HF : Hid (S = namesIf gives (l.map Sp.s) ms) := by show _ = _; rw [hfold.out, hk0, HRES.out]; simp [namesOf]
        clear hfold hko
        go_wp2_with fail
        go_ret
        rw [HF.out]
        exact ⟨b, off, c, rfl, by rw [← HF.out]; exact hheld2.out.1, hheld2.out.2.1, hheld2.out.2.2.1, by rw [← HF.out]; exact hheld2.out.2.2.2, hbx2⟩
      · have hm12 := hok12.out rfl
        have q1 : w2.cell? ⟨w.heap.size, 1, none⟩ = some (.slice a2 m c2) := (hbw2.cell (Nat.lt_succ_self _)).trans ((Has.new w 29 _).cell 1)
        have hkl : k < ms.length := by rw [← HM.out]; exact hlt
        have HY := H2.out.below (hbx2.mono hB)
        obtain ⟨b0, o0, rfl, _, p0, p1, p2, p3⟩ := HY.at_ hkl
        obtain ⟨x, hx⟩ : ∃ x, ms[k] = x := ⟨_, rfl⟩
        rw [hx] at p0 p1 p2 p3
        have HSN := hidden (namesOf_snoc (p := gives) (ms := ms) (k := k) (x := x) (by rw [List.getElem?_eq_getElem hkl, hx]))
        have hins := l2Insert_any w2 b off c S x.name hheld2.out.2.2.1 hheld2.out.2.2.2 hheld2.out.1 hheld2.out.2.1 (by omega)
        have hlen := insertS_length S x.name
        have HI := hidden hins
        obtain ⟨xn, xb, xl, xv⟩ := x
        simp only at p0 p1 p2 p3 HI hlen
        clear hins hx hkl HY
        by_cases hx : xl = -1
        · have hx' : (xl != -1) = false := by simp [hx]
          have HN : Hid (S = namesOf gives (ms.take (k + 1))) := by show _ = _; rw [HSN.out, ← hfold.out]; simp [gives, hx]
          clear hfold HSN hko HI
          go_wp2_with fail
          go_roundw
          case rel => exact ⟨k + 1, b, off, c, S, by go_num, by omega, rfl, hheld2, HN, by omega, by simp, hbw2⟩
          case measure => simp [intOf]; omega
        have hx' : (xl != -1) = true := by simp [hx]
        by_cases hz : xb = 0
        · have hz' : (xb != 0) = false := by simp [hz]
          have HN : Hid (S = namesOf gives (ms.take (k + 1))) := by show _ = _; rw [HSN.out, ← hfold.out]; simp [gives, hx, hz]
          clear hfold HSN hko HI
          go_wp2_with fail
          go_roundw
          case rel => exact ⟨k + 1, b, off, c, S, by go_num, by omega, rfl, hheld2, HN, by omega, by simp, hbw2⟩
          case measure => simp [intOf]; omega
        · have hz' : (xb != 0) = true := by simp [hz]
          have HN : Hid (insertS S xn = namesOf gives (ms.take (k + 1))) := by show _ = _; rw [HSN.out, ← hfold.out]; simp [gives, hx, hz]
          clear hfold HSN hheld2 hko
          go_wp2_with fail
          refine HI.out.mono ?_
          clear HI
          rintro e w3 ⟨b2, o2, cn, rfl, hc2, hc2m, hb2, hcells, hbel⟩
          have hheld3 : Hid ((insertS S xn).length ≤ cn ∧ cn ≤ maxLen ∧ b2 < w3.heap.size ∧ ∀ i u, ((insertS S xn).map Value.string)[i]? = some u → w3.cell? ⟨b2, o2 + i, none⟩ = some u) := ⟨hc2, hc2m, hb2, hcells⟩
          have hbw3 : Below (w.heap.size + 1) (w.alloc (.cells #[.slice a1 n c1, .slice (some ⟨b0, o0, none⟩) m c2] 29)) w3 := hbw2.trans (hbel.mono (by have := hbw2.size; simpa using this))
          clear hcells hbel hbw2 p0 p1 p2 p3 q1
          go_wp2_with fail
          go_roundw
          case rel => exact ⟨k + 1, b2, o2, cn, insertS S xn, by go_num, by omega, rfl, hheld3, HN, by omega, by simp, hbw3⟩
          case measure => simp [intOf]; omega
    · have hi : ¬ (k : Int) < (m : Int) := by omega
      have hkm : k = m := by omega
      have HF : Hid (S = namesIf gives (l.map Sp.s) ms) := by
        show _ = _
        rw [hfold.out, HRES.out]
        by_cases h0 : k = 0
        · have : ms = [] := List.eq_nil_of_length_eq_zero (by rw [← HM.out]; omega)
          subst this
          rcases ok with _ | _ <;> simp [namesOf]
        · rw [hko (by omega), hkm, HM.out, List.take_length]; simp
      clear hfold hko
      go_wp2_with fail
      go_ret
      rw [HF.out]
      exact ⟨b, off, c, rfl, by rw [← HF.out]; exact hheld.out.1, hheld.out.2.1, hheld.out.2.2.1, by rw [← HF.out]; exact hheld.out.2.2.2, hbx0⟩

end Go.Proofs.Ytiocchmlmcoieaa

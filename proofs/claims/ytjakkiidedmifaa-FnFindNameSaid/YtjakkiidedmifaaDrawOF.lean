/-
  spec.DrawFindName; what a found name is.
-/
import Derived.Test.YtjakkiidedmifaaDrawOL
import Derived.Test.YtjakkiidedmifaaLawL2
import Derived.Test.YtjakkiidedmifaaLawL4
namespace Go.Proofs.Ytjakkiidedmifaa
open Go.RowKit

/-- Objects and a name that were drawn. -/
def GotF (w : World) (e : Ending) (w' : World) : Prop :=
  ∃ (a : Option Addr) (c : Nat) (L : List Oj) (s : ByteArray), e = .returned (.tuple #[.slice a L.length c, .string s]) ∧ L.length ≤ 5 ∧ (∀ y ∈ L, y.few) ∧ s.size ≤ 9 ∧ Objs w' w'.heap.size a L ∧ Below w.heap.size w w'
set_option maxRecDepth 100000 in
theorem drawFindName_any (w : World) (a : Option Addr) (cap : Nat) (l : List Int) (h : Ints w .u8 w.heap.size a l) (hcap : l.length ≤ cap) (hlen : cap ≤ 9223372036854775807) :
    Calls Try.prog 21 #[.slice a l.length cap] w (GotF w) := by
  go_enter Try.func21, Try.ntmps21
  go_wp2_with fail
  refine (l20Open_any w a cap l h hcap hlen).mono ?_
  rintro e w1 ⟨rfl, hr1, hb1⟩
  have HX := hidden (l20Objects_any w1 w.heap.size w.heap.size 0 9 hr1 (by omega) (by omega) (by omega))
  have HB := hidden hb1
  have hlt := hr1.lt
  clear hr1 hb1 h
  go_wp2_with fail
  refine HX.out.mono ?_
  clear HX
  rintro e w2 ⟨a2, c2, L, rfl, hl, d⟩
  have HN := hidden (l20Name_any w2 w.heap.size w.heap.size (0 + 10000) 9 d.rd (by omega) (by omega) (by omega))
  have HD := hidden d
  obtain ⟨nL, hnL⟩ : ∃ n, L.length = n := ⟨_, rfl⟩
  have HNL := hidden hnL
  rw [hnL]
  clear d hnL
  go_wp2_with fail
  refine HN.out.mono ?_
  clear HN
  rintro e w3 ⟨s, rfl, hs, hr3, hg3⟩
  have HF : Hid (GotF w (.returned (.tuple #[.slice a2 nL c2, .string s])) w3) := by
    have d3 := HD.out.pick hlt hr3 hg3
    exact ⟨a2, c2, L, s, by rw [HNL.out], hl, d3.few, hs, d3.list.objs', HB.out.grown d3.grown HB.out.size (by intro q hq; injection hq with hq; omega)⟩
  clear HD HB hr3 hg3
  go_wp2_with fail
  go_ret2
  exact HF.out
theorem fewObjects_any (w : World) (B : Nat) (a : Option Addr) (c n : Nat) (L : List Oj) (hn : n = L.length) (h : Objs w B a L) (hB : B ≤ w.heap.size) (hlen : n ≤ 9223372036854775807) (hf : ∀ y ∈ L, y.fits) :
    Calls Try.prog 23 #[.slice a n c] w fun e w' => e = .returned (.bool (validA (L.map Oj.o))) ∧ Below w.heap.size w w' := by
  have HV := hidden (objectsValid_any w B a c n L hn h hB hlen hf)
  clear hn h hf
  go_enter Try.func23, Try.ntmps23
  go_wp2_with fail
  refine HV.out.mono ?_
  clear HV
  rintro e w1 ⟨rfl, hb⟩
  go_wp2_with fail
  go_ret
  exact ⟨rfl, hb⟩
/-- Nothing is told of a name that is not given. -/
theorem zero_of (s : ByteArray) : ∀ P : List It, bindsOk P → (useOf s P).given = false → (useOf s P).inn = 0 ∧ (useOf s P).at_ = 0 :=
  snoc_ind (fun _ _ => ⟨rfl, rfl⟩) fun P x ih hb hg => by
    have hbP : bindsOk P := fun y hy => hb y (List.mem_append.2 (.inl hy))
    have ih := ih hbP
    have ho := (use_same s P hbP).2.2.2.2
    rw [useOf_snoc] at hg ⊢
    split at hg
    · rename_i hn
      rw [if_pos hn]
      unfold Use.step at hg ⊢
      by_cases hl : x.m.loc = -1
      · rw [if_pos hl] at hg ⊢
        exact ih hg
      · rw [if_neg hl] at hg ⊢
        by_cases hb1 : x.m.bind = 1
        · rw [if_pos hb1] at hg ⊢
          by_cases h0 : (useOf s P).strong = 0
          · rw [if_pos h0] at hg; cases hg
          · rw [if_neg h0] at hg ⊢
            have h1 : (useOf s P).given = true := ho.1 (by omega)
            have h2 : (useOf s P).given = false := hg
            rw [h2] at h1; cases h1
        · rw [if_neg hb1] at hg ⊢
          by_cases h2 : x.m.bind = 2 ∧ (useOf s P).given = false
          · rw [if_pos h2] at hg; cases hg
          · rw [if_neg h2] at hg ⊢
            exact ih hg
    · rename_i hn
      rw [if_neg hn]
      exact ih hg
/-- A symbol that gives a name. -/
def gv (s : ByteArray) (x : It) : Bool := decide (x.m.name = s ∧ x.m.bind ≠ 0 ∧ x.m.loc ≠ -1)
/-- .. strongly. -/
def gs (s : ByteArray) (x : It) : Bool := gv s x && decide (x.m.bind = 1)
theorem any_given {L : List (List Sx × List Sm)} (hv : validA L = true) (s : ByteArray) : (itemsA L).any (gv s) = (findA L s).given := by
  unfold findA
  rw [if_pos hv]
  have h := given_by s _ (binds_of hv)
  rw [Bool.eq_iff_iff, h, List.any_eq_true]
  constructor
  · rintro ⟨x, hx, hg⟩
    have := of_decide_eq_true hg
    exact ⟨x, hx, this.1, this.2.2, this.2.1⟩
  · rintro ⟨x, hx, h1, h2, h3⟩
    exact ⟨x, hx, decide_eq_true ⟨h1, h3, h2⟩⟩
theorem any_strong {L : List (List Sx × List Sm)} (hv : validA L = true) (s : ByteArray) : (itemsA L).any (gs s) = decide (0 < (findA L s).strong) := by
  unfold findA
  rw [if_pos hv]
  have h := strong_by s (itemsA L)
  rw [Bool.eq_iff_iff, decide_eq_true_eq, h, List.any_eq_true]
  constructor
  · rintro ⟨x, hx, hg⟩
    unfold gs at hg
    rw [Bool.and_eq_true] at hg
    have h1 := of_decide_eq_true hg.1
    exact ⟨x, hx, h1.1, h1.2.2, of_decide_eq_true hg.2⟩
  · rintro ⟨x, hx, h1, h2, h3⟩
    refine ⟨x, hx, ?_⟩
    unfold gs gv
    simp [h1, h2, h3]
/-- The symbol that is found. -/
theorem found_told {L : List Oj} {s : ByteArray} (hg : (findA (L.map Oj.o) s).given = true) : ∃ (k j : Nat) (y : Oj) (m : Sm), L[k]? = some y ∧ y.ms[j]? = some m ∧ (findA (L.map Oj.o) s).inn = (k : Int) ∧ (findA (L.map Oj.o) s).at_ = (j : Int) ∧ m.name = s ∧ m.loc ≠ -1 ∧ m.bind ≠ 0 ∧ (m.bind = 1 ↔ 0 < (findA (L.map Oj.o) s).strong) := by
  unfold findA at hg ⊢
  split at hg
  · rename_i hv
    rw [if_pos hv]
    obtain ⟨x, hx, h1, h2, h3, h4, h5, h6⟩ := use_at s _ (binds_of hv) hg
    obtain ⟨o, ho, hm⟩ := mem_itemsA.1 hx
    rw [List.getElem?_map] at ho
    obtain ⟨y, hy, rfl⟩ := Option.map_eq_some_iff.1 ho
    exact ⟨x.i, x.j, y, x.m, hy, hm, h1, h2, h3, h4, h5, h6⟩
  · cases hg
theorem not_found {L : List (List Sx × List Sm)} {s : ByteArray} (hg : (findA L s).given = false) : (findA L s).inn = 0 ∧ (findA L s).at_ = 0 := by
  unfold findA at hg ⊢
  split at hg
  · rename_i hv
    rw [if_pos hv]
    exact zero_of s _ (binds_of hv) hg
  · rename_i hv
    rw [if_neg hv]
    exact ⟨rfl, rfl⟩

end Go.Proofs.Ytjakkiidedmifaa

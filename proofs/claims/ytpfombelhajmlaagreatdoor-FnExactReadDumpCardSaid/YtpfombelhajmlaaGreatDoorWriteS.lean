import Derived.IntWalk
import Derived.Deep.CutBlock
import Derived.Test.YtpfombelhajmlaaGreatDoorObjV
import Derived.Test.YtpfombelhajmlaaGreatDoorRegion
import Derived.Test.YtpfombelhajmlaaGreatDoorDrawN
import Derived.Test.YtpfombelhajmlaaGreatDoorTableS
import Derived.Test.YtpfombelhajmlaaGreatDoorRegionV
import Derived.Test.YtpfombelhajmlaaGreatDoorHead
import Derived.Test.YtpfombelhajmlaaGreatDoorFoundP
import Derived.Test.YtpfombelhajmlaaGreatDoorPlaceS
import Derived.Test.YtpfombelhajmlaaGreatDoorWant4
import Derived.Test.YtpfombelhajmlaaGreatDoorBase
namespace Go.Proofs.YtpfombelhajmlaaGreatDoor
open Go.RowKit
end Go.Proofs.YtpfombelhajmlaaGreatDoor
namespace Go.Proofs.YtpfombelhajmlaaGreatDoor
open Go.RowKit
end Go.Proofs.YtpfombelhajmlaaGreatDoor
namespace Go.Proofs.YtpfombelhajmlaaGreatDoor
open Go.RowKit
def placeIn (t : List Int) (s : ByteArray) : Int := firstAt t s 0 t.length
def symBytes (t : List Int) (m : Sm) : List Int := putList (placeIn t m.name) 2 ++ ([m.bind, m.loc + 2] ++ putList m.value 2)
def fixBytes (f : Fx) : List Int := [f.pl, f.kind, f.to] ++ putList (f.add + 1000) 2
structure ObjTold (l : List Sp) (ms : List Sm) : Prop where
  secs : l.length ≤ 8
  syms : ms.length ≤ 12
  sec : ∀ y ∈ l, sectOk y.s ms.length = true
  sym : ∀ m ∈ ms, symOk m (l.map Sp.s) = true
theorem objOk_told {l : List Sp} {ms : List Sm} (h : objOk (l.map Sp.s) ms = true) : ObjTold l ms := by
  unfold objOk at h
  simp only [Bool.and_eq_true, decide_eq_true_eq, List.length_map, List.all_eq_true] at h
  exact ⟨h.2.2.1, h.2.2.2, fun y hy => h.1 y.s (List.mem_map_of_mem hy), (symsOk_told _ ms [] h.2.1).1⟩
theorem fixs_add (n many : Int) : ∀ (e : Int) (fs : List Fx), fixsOk n many e fs = true → ∀ f ∈ fs, -1000 ≤ f.add ∧ f.add ≤ 1000
  | _, [], _, f, hf => by cases hf
  | e, g :: r, h, f, hf => by
    simp only [fixsOk, Bool.and_eq_true] at h
    rcases List.mem_cons.1 hf with rfl | hf
    · have := h.1
      unfold fixOk at this
      simp only [Bool.and_eq_true, decide_eq_true_eq] at this
      exact this.1.2
    · exact fixs_add n many _ r h.2 f hf
theorem sect_parts {s : Sx} {many : Int} (h : sectOk s many = true) : nameOk s.name.data.toList = true ∧ s.bytes.length ≤ 48 ∧ s.fixs.length ≤ 6 ∧ 0 ≤ s.long ∧ s.long ≤ 48 ∧ ∀ f ∈ s.fixs, -1000 ≤ f.add ∧ f.add ≤ 1000 := by
  unfold sectOk at h
  simp only [Bool.and_eq_true, decide_eq_true_eq] at h
  obtain ⟨⟨⟨⟨⟨⟨h1, h2⟩, h3⟩, h4⟩, h5⟩, h6⟩, h7⟩ := h
  refine ⟨h1, h4, h5, ?_, ?_, fun f hf => ?_⟩
  · unfold Sx.long; split <;> omega
  · unfold Sx.long; split <;> omega
  · split at h7
    · simp only [Bool.and_eq_true, decide_eq_true_eq] at h7
      have := List.eq_nil_of_length_eq_zero h7.2
      rw [this] at hf; cases hf
    · simp only [Bool.and_eq_true] at h7
      exact fixs_add _ _ _ _ h7.1 f hf
theorem sym_value {m : Sm} {l : List Sp} {ms : List Sm} (h : ObjTold l ms) (hm : m ∈ ms) : 0 ≤ m.value ∧ m.value < 65536 := by
  have := h.sym m hm
  unfold symOk at this
  simp only [Bool.and_eq_true] at this
  obtain ⟨-, hv⟩ := this
  split at hv
  · simp only [Bool.and_eq_true, decide_eq_true_eq] at hv; omega
  · split at hv
    · simp only [decide_eq_true_eq] at hv; omega
    · simp only [Bool.and_eq_true, decide_eq_true_eq] at hv
      rcases e : (l.map Sp.s)[m.loc.toNat]? with _ | x
      · rw [e] at hv; simp at hv; omega
      · rw [e] at hv
        simp only [Option.map_some, Option.getD_some] at hv
        obtain ⟨hi, hx⟩ := List.getElem?_eq_some_iff.1 e
        obtain ⟨y, hy, rfl⟩ := List.mem_map.1 (show x ∈ l.map Sp.s by rw [← hx]; exact List.getElem_mem hi)
        have := (sect_parts (h.sec y hy)).2.2.2.2.1
        omega
end Go.Proofs.YtpfombelhajmlaaGreatDoor
namespace Go.Proofs.YtpfombelhajmlaaGreatDoor
open Go.RowKit
theorem fixs_parts (n many : Int) : ∀ (e : Int) (fs : List Fx), 0 ≤ e → fixsOk n many e fs = true → ∀ f ∈ fs, (0 ≤ f.pl ∧ f.pl ≤ n) ∧ (1 ≤ f.kind ∧ f.kind ≤ 3) ∧ (0 ≤ f.to ∧ f.to < many) ∧ -1000 ≤ f.add ∧ f.add ≤ 1000
  | _, [], _, _, f, hf => by cases hf
  | e, g :: r, h0, h, f, hf => by
    simp only [fixsOk, Bool.and_eq_true] at h
    have hg := h.1
    unfold fixOk at hg
    simp only [Bool.and_eq_true, decide_eq_true_eq] at hg
    obtain ⟨⟨⟨⟨g1, g2⟩, g3⟩, g4⟩, g5⟩ := hg
    have hw := wideOf_bounds g.kind
    rcases List.mem_cons.1 hf with rfl | hf
    · refine ⟨by omega, ?_, ⟨g2, g3⟩, g4⟩
      unfold wideOf at g1
      split at g1
      · omega
      · split at g1
        · omega
        · split at g1
          · omega
          · exact absurd rfl g1
    · exact fixs_parts _ _ _ r (by omega) h.2 f hf
theorem sect_bytes {s : Sx} {many : Int} (h : sectOk s many = true) : (1 ≤ s.kind ∧ s.kind ≤ 3) ∧ (1 ≤ s.align ∧ s.align ≤ 8) ∧ ∀ f ∈ s.fixs, (0 ≤ f.pl ∧ f.pl ≤ 48) ∧ (1 ≤ f.kind ∧ f.kind ≤ 3) ∧ (0 ≤ f.to ∧ f.to < many) ∧ -1000 ≤ f.add ∧ f.add ≤ 1000 := by
  unfold sectOk at h
  simp only [Bool.and_eq_true, decide_eq_true_eq] at h
  obtain ⟨⟨⟨⟨⟨⟨h1, h2⟩, h3⟩, h4⟩, h5⟩, h6⟩, h7⟩ := h
  refine ⟨h2, by omega, fun f hf => ?_⟩
  split at h7
  · simp only [Bool.and_eq_true, decide_eq_true_eq] at h7
    have := List.eq_nil_of_length_eq_zero h7.2
    rw [this] at hf; cases hf
  · simp only [Bool.and_eq_true] at h7
    have := fixs_parts _ _ 0 _ (by omega) h7.1 f hf
    exact ⟨by omega, this.2⟩
theorem sym_bytes {m : Sm} {l : List Sp} {ms : List Sm} (h : ObjTold l ms) (hm : m ∈ ms) : (0 ≤ m.bind ∧ m.bind ≤ 2) ∧ -2 ≤ m.loc ∧ m.loc ≤ 8 := by
  have h8 := h.secs
  have := h.sym m hm
  unfold symOk at this
  simp only [Bool.and_eq_true, decide_eq_true_eq, List.length_map] at this
  obtain ⟨⟨-, hb⟩, hv⟩ := this
  refine ⟨hb, ?_⟩
  split at hv
  · omega
  · split at hv
    · omega
    · simp only [Bool.and_eq_true, decide_eq_true_eq] at hv; omega
theorem flat_snoc {A : Type} (f : A → List Int) {l : List A} {k : Nat} {y : A} (h : l[k]? = some y) : (l.take (k + 1)).flatMap f = (l.take k).flatMap f ++ f y := by
  rw [List.take_add_one, h, List.flatMap_append]
  simp
end Go.Proofs.YtpfombelhajmlaaGreatDoor
namespace Go.Proofs.YtpfombelhajmlaaGreatDoor
open Go.RowKit
end Go.Proofs.YtpfombelhajmlaaGreatDoor
namespace Go.Proofs.YtpfombelhajmlaaGreatDoor
open Go.RowKit
end Go.Proofs.YtpfombelhajmlaaGreatDoor

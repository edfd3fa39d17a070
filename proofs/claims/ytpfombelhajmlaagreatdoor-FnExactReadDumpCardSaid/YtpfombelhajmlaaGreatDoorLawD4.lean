import Derived.Test.YtpfombelhajmlaaGreatDoorTabsD
import Derived.Test.YtpfombelhajmlaaGreatDoorDumpN
import Derived.Test.YtpfombelhajmlaaGreatDoorLawD3
import Derived.Test.YtpfombelhajmlaaGreatDoorLawD1
import Derived.Test.YtpfombelhajmlaaGreatDoorSameT
import Derived.Test.YtpfombelhajmlaaGreatDoorSR
import Derived.Test.YtpfombelhajmlaaGreatDoorSamE
namespace Go.Proofs.YtpfombelhajmlaaGreatDoor
open Go.RowKit
def libTop : Nat := max (max 1 0) (max 4 5) + 1
theorem tab_le_lib : tabTop ≤ libTop := by decide
structure Libs (W : World) : Prop where
  lt : libTop ≤ W.heap.size
  tabs : Tabs W
  most : ∃ m, W.cell? ⟨0, 0, none⟩ = some (.int .i64 m)
  syn : ∃ t u, W.cell? ⟨4, 0, none⟩ = some (.iface t u)
  rng : ∃ t u, W.cell? ⟨5, 0, none⟩ = some (.iface t u)
theorem Libs.below {W W' : World} {B : Nat} (h : Libs W) (hb : Below B W W') (hB : libTop ≤ B) : Libs W' := by
  have k : ∀ i, i < libTop → W'.cell? ⟨i, 0, none⟩ = W.cell? ⟨i, 0, none⟩ := fun i hi => hb.cell (by show i < B; omega)
  refine ⟨Nat.le_trans h.lt hb.size, h.tabs.below hb (Nat.le_trans tab_le_lib hB), ?_, ?_, ?_⟩
  · rw [k _ (by decide)]; exact h.most
  · rw [k _ (by decide)]; exact h.syn
  · rw [k _ (by decide)]; exact h.rng
end Go.Proofs.YtpfombelhajmlaaGreatDoor
namespace Go.Proofs.YtpfombelhajmlaaGreatDoor
open Go.RowKit
theorem numL_byte (n : Int) : ∀ c ∈ numL n, 0 ≤ c ∧ c < 256 := fun c hc => by have := numL_chars n c hc; omega
theorem bytes_app {a b : List Int} (ha : ∀ c ∈ a, 0 ≤ c ∧ c < 256) (hb : ∀ c ∈ b, 0 ≤ c ∧ c < 256) : ∀ c ∈ a ++ b, 0 ≤ c ∧ c < 256 := fun c hc => (List.mem_append.1 hc).elim (ha c) (hb c)
theorem bytes_sp {b : List Int} (hb : ∀ c ∈ b, 0 ≤ c ∧ c < 256) : ∀ c ∈ 32 :: b, 0 ≤ c ∧ c < 256 := fun c hc => (List.mem_cons.1 hc).elim (fun h => by omega) (hb c)
theorem secT_byte {s : Sx} (h : ∀ x ∈ s.bytes, 0 ≤ x ∧ x < 256) : ∀ c ∈ secT s, 0 ≤ c ∧ c < 256 := by
  unfold secT
  refine bytes_app (by decide) (bytes_sp (bytes_app (numsOf_wf _) (bytes_sp (bytes_app (numL_byte _) (bytes_sp (bytes_app (numL_byte _) (bytes_sp (bytes_app (numL_byte _) ?_))))))))
  split
  · exact bytes_sp fun c hc => by have := hexL_chars _ h c hc; omega
  · intro c hc; cases hc
theorem fixT_byte (f : Fx) : ∀ c ∈ fixT f, 0 ≤ c ∧ c < 256 := by
  unfold fixT
  exact bytes_app (by decide) (bytes_sp (bytes_app (numL_byte _) (bytes_sp (bytes_app (numL_byte _) (bytes_sp (bytes_app (numL_byte _) (bytes_sp (numL_byte _))))))))
theorem symT_byte (m : Sm) : ∀ c ∈ symT m, 0 ≤ c ∧ c < 256 := by
  unfold symT
  exact bytes_app (by decide) (bytes_sp (bytes_app (numsOf_wf _) (bytes_sp (bytes_app (numL_byte _) (bytes_sp (bytes_app (numL_byte _) (bytes_sp (numL_byte _))))))))
theorem dumpL_cases {ss : List Sx} {ms : List Sm} {t : List Int} (h : t ∈ dumpL ss ms) : (∃ s ∈ ss, t = secT s) ∨ (∃ s ∈ ss, ∃ f ∈ s.fixs, t = fixT f) ∨ ∃ m ∈ ms, t = symT m := by
  unfold dumpL at h
  rcases List.mem_append.1 h with h | h
  · obtain ⟨s, hs, h⟩ := List.mem_flatMap.1 h
    rcases List.mem_cons.1 h with h | h
    · exact .inl ⟨s, hs, h⟩
    · obtain ⟨f, hf, h⟩ := List.mem_map.1 h
      exact .inr (.inl ⟨s, hs, f, hf, h.symm⟩)
  · obtain ⟨m, hm, h⟩ := List.mem_map.1 h
    exact .inr (.inr ⟨m, hm, h.symm⟩)
theorem dumpX_nums {ss : List Sx} {ms : List Sm} (h : objOk ss ms = true) (hb : ∀ s ∈ ss, ∀ x ∈ s.bytes, 0 ≤ x ∧ x < 256) : (dumpX ss ms).map numsOf = dumpL ss ms := by
  unfold dumpX
  rw [if_pos h, List.map_map]
  conv => rhs; rw [← List.map_id (dumpL ss ms)]
  refine List.map_congr_left fun t ht => numsOf_strOfNums ?_
  rcases dumpL_cases ht with ⟨s, hs, rfl⟩ | ⟨s, hs, f, hf, rfl⟩ | ⟨m, hm, rfl⟩
  · exact secT_byte (hb s hs)
  · exact fixT_byte f
  · exact symT_byte m
def ReadD (w : World) (l : List (List Int)) (e : Ending) (w' : World) : Prop :=
  Below w.heap.size w w' ∧ ((rdD l = none ∧ e = .returned (.tuple #[.agg #[.slice none 0 0, .slice none 0 0], .bool false])) ∨
    ∃ (ss : List Sp) (ms : List Sm) (a1 a2 : Option Addr) (c1 c2 : Nat), rdD l = some (ss.map Sp.s, ms) ∧ e = .returned (.tuple #[.agg #[.slice a1 ss.length c1, .slice a2 ms.length c2], .bool true]) ∧
      SR w' w.heap.size (.slice a1 ss.length c1) ss ∧ w'.ownsRow w.heap.size 58 4 (.slice a2 ms.length c2) ms.length (flatM ms))
theorem FreshS.told {w : World} {S : List ByteArray} {e : Ending} {w' : World} (h : FreshS w S e w') : ∃ (a : Option Addr) (c : Nat), e = .returned (.slice a S.length c) ∧ Vals w' w'.heap.size a (S.map Value.string) ∧ Below w.heap.size w w' := by
  obtain ⟨a, c, he, hr, hb⟩ := h
  refine ⟨a, c, he, fun hp => ?_, hb⟩
  obtain ⟨g, cs, h1, h2, h3, h4, h5⟩ := hr (by rw [List.length_map] at hp; exact hp)
  refine ⟨g, 0, h1, h3.lt, fun i u hu => ?_⟩
  rw [List.getElem?_map] at hu
  obtain ⟨s, hs, rfl⟩ := Option.map_eq_some_iff.1 hu
  rw [Nat.zero_add, h3.cell]
  exact h5 i s hs
theorem ReadD.told {w : World} {t : List (List Int)} {e : Ending} {w' : World} (h : ReadD w t e w') : ∃ (ok : Bool) (ss : List Sp) (ms : List Sm) (a1 a2 : Option Addr) (c1 c2 : Nat), e = .returned (.tuple #[.agg #[.slice a1 ss.length c1, .slice a2 ms.length c2], .bool ok]) ∧
    (ok = true → rdD t = some (ss.map Sp.s, ms)) ∧ (ok = false → rdD t = none ∧ ss = [] ∧ ms = []) ∧ Sects w' w'.heap.size a1 ss ∧ Syms w' w'.heap.size a2 ms ∧ (∀ y ∈ ss, ∀ x ∈ y.s.bytes, (Lit.int .u8 x).wf = true) ∧ Below w.heap.size w w' := by
  obtain ⟨hb, ⟨hr, he⟩ | ⟨ss, ms, a1, a2, c1, c2, hr, he, hs, hm⟩⟩ := h
  · exact ⟨false, [], [], none, none, 0, 0, he, (fun e => by cases e), (fun _ => ⟨hr, rfl, rfl⟩), ⟨fun h => absurd h (by simp), (fun y hy => by cases hy), (fun y hy => by cases hy)⟩, (fun h => absurd h (by simp)), (fun y hy => by cases hy), hb⟩
  · exact ⟨true, ss, ms, a1, a2, c1, c2, he, fun _ => hr, (fun e => by cases e), hs.sects, syms_of_own hm, hs.wf, hb⟩
end Go.Proofs.YtpfombelhajmlaaGreatDoor

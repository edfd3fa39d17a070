import Derived.Test.YtpfombelhajmlaaGreatDoorTabsD
import Derived.Test.YtpfombelhajmlaaGreatDoorWant4
import Derived.Test.YtpfombelhajmlaaGreatDoorDumpO
import Derived.Test.YtpfombelhajmlaaGreatDoorMarkP
import Derived.Deep.RegionWith
namespace Go.Proofs.YtpfombelhajmlaaGreatDoor
open Go.RowKit
def dumpX (ss : List Sx) (ms : List Sm) : List ByteArray := if objOk ss ms then (dumpL ss ms).map strOfNums else []
theorem dumpX_short (ss : List Sx) (ms : List Sm) : (dumpX ss ms).length ≤ 100 := by
  unfold dumpX
  split
  · rename_i h
    unfold objOk at h
    simp only [Bool.and_eq_true, List.all_eq_true, decide_eq_true_eq] at h
    have hf : ∀ (l : List Sx), (∀ s ∈ l, s.fixs.length ≤ 6) → (l.flatMap fun s => secT s :: s.fixs.map fixT).length ≤ 7 * l.length := by
      intro l
      induction l with
      | nil => intro _; simp
      | cons s l ih =>
        intro hl
        have h1 := ih fun x hx => hl x (List.mem_cons_of_mem _ hx)
        have h2 := hl s (List.mem_cons_self ..)
        simp only [List.flatMap_cons, List.length_append, List.length_cons, List.length_map]
        omega
    have h6 := hf ss fun s hs => by
      have := h.1 s hs
      unfold sectOk at this
      simp only [Bool.and_eq_true, decide_eq_true_eq] at this
      exact this.1.1.2
    have h8 := h.2.2.1
    have h12 := h.2.2.2
    unfold dumpL
    simp only [List.length_map, List.length_append]
    omega
  · simp
def WantDumpC (f : FuncId) : Prop := ∀ (w : World) (B : Nat) (a1 a2 : Option Addr) (c1 c2 : Nat) (l : List Sp) (ms : List Sm), Tabs w → Sects w B a1 l → Syms w B a2 ms → B ≤ w.heap.size → l.length ≤ 9223372036854775807 → ms.length ≤ 9223372036854775807 → (∀ y ∈ l, y.s.fits) → (∀ x ∈ ms, x.fits) →
  Calls Tryz.prog f #[.agg #[.slice a1 l.length c1, .slice a2 ms.length c2]] w fun e w' => FreshS w (dumpX (l.map Sp.s) ms) e w' ∧ ∀ a n c, e = .returned (.slice a n c) → n ≤ c ∧ c ≤ maxLen
def WantDumpObject : Prop := WantDumpC 7
def Dumped (w : World) (S : List ByteArray) (e : Ending) (w' : World) : Prop :=
  ∃ a c, e = .returned (.slice a S.length c) ∧ Vals w' w'.heap.size a (S.map Value.string) ∧ Below w.heap.size w w'
theorem dumpTold_any (w : World) (B : Nat) (a1 a2 : Option Addr) (c1 c2 n m : Nat) (l : List Sp) (ms : List Sm) (hn : n = l.length) (hm : m = ms.length) (h1 : Sects w B a1 l) (h2 : Syms w B a2 ms) (hB : B ≤ w.heap.size) (hlen : n ≤ 9223372036854775807) (hlem : m ≤ 9223372036854775807)
    (hl : ∀ y ∈ l, y.s.lens) (hs : ∀ x ∈ ms, x.name.size ≤ maxLen) :
    Calls Tryz.prog 9 #[.agg #[.slice a1 n c1, .slice a2 m c2]] w (Dumped w (dumpX (l.map Sp.s) ms)) :=
  (dumpObject'_any w B a1 a2 c1 c2 n m l ms hn hm h1 h2 hB hlen hlem hl hs).mono fun e w' ⟨v, he, ho, hb⟩ => by
    have ho' : w'.ownsRow w.heap.size 9 1 v ((dumpT l ms).map Value.string).length ((dumpT l ms).map Value.string) := by rw [List.length_map]; exact ho
    obtain ⟨a, c, hv, _, hvv⟩ := vals_of_own ho'
    refine ⟨a, c, ?_, hvv, hb⟩
    rw [he, hv, List.length_map]
    rfl
end Go.Proofs.YtpfombelhajmlaaGreatDoor

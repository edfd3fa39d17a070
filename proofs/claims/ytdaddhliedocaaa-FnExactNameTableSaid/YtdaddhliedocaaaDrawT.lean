/-
  Contracts of the draws of a table and a place, and of a table and a name.
-/
import Derived.Test.YtdaddhliedocaaaTableS
import Derived.Test.YtdaddhliedocaaaDrawN
import Derived.Deep.RegionWith
namespace Go.Proofs.Ytdaddhliedocaaa
open Go.RowKit

theorem nameTab_short {names : List ByteArray} (h : ∀ x ∈ names, x.size ≤ 9) : (nameTab names).length ≤ 401 := by
  unfold nameTab
  split
  · rename_i hn
    simp only [namesOk, Bool.and_eq_true, decide_eq_true_eq] at hn
    have h1 := fold_length names []
    have h2 := tabBytes_short (names.foldl insertS []) (fun x hx => by
      rcases mem_fold names [] x hx with h' | h'
      · simp at h'
      · exact h x h') (names.foldl insertS []).length
    simp only [List.length_nil] at h1
    omega
  · simp

theorem Ints.pastRd {w w' : World} {B g C : Nat} {P : Int} {a : Option Addr} {l : List Int} (hr : Rd w B g P) (h : Ints w .u8 C a l) (hg : w.grownBy w' (some g)) (hC : C ≤ w.heap.size) : Ints w' .u8 C a l := by
  refine ⟨h.1, fun hn => ?_⟩
  obtain ⟨b, off, ha, hb, hc⟩ := h.2 hn
  refine ⟨b, off, ha, hb, fun i hi => ?_⟩
  have hne : b ≠ g := by
    rintro rfl
    obtain ⟨_, _, _, _, _, hh, _⟩ := hr
    have h0 := hc i hi
    rw [hh.cell] at h0
    generalize off + i = q at h0
    match q, h0 with
    | 0, h0 => simp at h0
    | 1, h0 => simp at h0
    | q + 2, h0 => simp at h0
  exact (World.cell?_of_block (hg.block b (by omega) (fun e => hne (by injection e)))).trans (hc i hi)

/-- What the draw of a table and a place leaves. -/
def DrawnAt (w : World) (e : Ending) (w' : World) : Prop :=
  ∃ (a : Option Addr) (c : Nat) (l : List Int) (n : Int), e = .returned (.tuple #[.slice a l.length c, .int .i64 n]) ∧ l.length ≤ c ∧ c ≤ maxLen ∧ Ints w' .u8 w'.heap.size a l ∧ l.length ≤ 401 ∧ -1 ≤ n ∧ n ≤ 22 ∧ Below w.heap.size w w'
set_option maxHeartbeats 4000000 in
theorem drawNameAt_any (w : World) (a : Option Addr) (cap : Nat) (l : List Int) (h : Ints w .u8 w.heap.size a l) (hcap : l.length ≤ cap) (hlen : cap ≤ 9223372036854775807) :
    Calls Try.prog 22 #[.slice a l.length cap] w (DrawnAt w) := by
  go_enter Try.func22, Try.ntmps22
  go_wp2_with fail
  refine (l20Open_any w a cap l h hcap hlen).mono ?_
  rintro e w1 ⟨rfl, hr1, hb1⟩
  clear h
  go_wp2_with fail
  refine (l20Names_any _ w.heap.size w.heap.size 0 0 hr1 (by omega) (by omega) (by omega)).mono ?_
  rintro e w2 ⟨v, ss, rfl, hown, hs9, hl7, hr2, hg2⟩
  have hb2 := hb1.grown hg2 hb1.size (by simp)
  have hown' : w2.ownsRow w1.heap.size 9 1 v (ss.map Value.string).length (ss.map Value.string) := by simpa using hown
  obtain ⟨a2, c2, rfl, hc2, hv2⟩ := vals_of_own hown'
  have hnt := nameTable'_any w2 w2.heap.size a2 c2 ss hv2 (Nat.le_refl _) (by omega) (fun x hx => by have := hs9 x hx; unfold maxLen; omega)
  have hlm : (ss.map Value.string).length = ss.length := by simp
  rw [hlm]
  have hsh := nameTab_short hs9
  have HNT := hidden hnt
  have s2 := hr2.lt
  clear hown hown' hv2 hg2 hr1 hb1 hnt hlm hc2
  go_wp2_with fail
  refine HNT.out.mono ?_
  clear HNT
  rintro e w3 ⟨a3, c3, rfl, hc3, hm3, hi3, hb3⟩
  have hr3 := hr2.below hb3 s2
  have hbw3 := hb2.trans (hb3.mono hb2.size)
  obtain ⟨T, hT⟩ : ∃ T, nameTab ss = T := ⟨_, rfl⟩
  rw [hT] at hc3 hi3 hsh ⊢
  clear hb3 hr2 hT hb2
  go_wp2_with fail
  refine (odd_any _ w.heap.size w.heap.size _ 6 hr3 (by omega) (by omega) (by omega)).mono ?_
  rintro e w4 ⟨o, rfl, hr4, hg4⟩
  have hb4 := hbw3.grown hg4 hbw3.size (by simp)
  have s3 := hr3.lt
  have hi4 : Ints w4 .u8 w3.heap.size a3 T := Ints.pastRd hr3 hi3 hg4 (Nat.le_refl _)
  have hs4 := hg4.size
  have hm3' : c3 ≤ 9223372036854775807 := by unfold maxLen at hm3; omega
  obtain ⟨q, hq⟩ : ∃ q, T.length = q := ⟨_, rfl⟩
  have HQ := hidden hq
  rw [hq] at hc3 hsh ⊢
  have tail : ∀ (m c : Nat) (A : Option Addr), m ≤ q → m ≤ c → c ≤ maxLen → Ints w4 .u8 w3.heap.size A (T.take m) → ∀ (x : Int) (w5 : World), 0 ≤ x → x < 24 → w4.grownBy w5 (some w.heap.size) →
      DrawnAt w (.returned (.tuple #[.slice A m c, .int .i64 (x - 1)])) w5 := fun m c A hmq hmc hcm hi x w5 x0 x1 hg5 => by
    have hl : (T.take m).length = m := by rw [List.length_take, HQ.out]; omega
    refine ⟨A, c, T.take m, x - 1, by rw [hl], by rw [hl]; exact hmc, hcm, ?_, by rw [hl]; omega, by omega, by omega, hb4.grown hg5 hb4.size (by simp)⟩
    exact (Ints.pastRd hr4 hi hg5 (by omega)).more (by have := hg5.size; omega)
  have HT := hidden tail
  have hfull : Ints w4 .u8 w3.heap.size a3 (T.take q) := by rw [List.take_of_length_le (by omega)]; exact hi4
  have HF := hidden hfull
  have PK := hidden (pick_any w4 w.heap.size w.heap.size _ 24 hr4 (by omega) (by omega) (by omega))
  clear hi3 hg4 hbw3 hr3 hq tail hfull hb4 hr4
  rcases o with _ | _
  · go_wp2_with fail
    refine PK.out.mono ?_
    rintro e w5 ⟨x, rfl, x0, x1, hr5, hg5⟩
    have hfin := hidden (HT.out q c3 a3 (Nat.le_refl _) hc3 hm3 HF.out x w5 x0 x1 hg5)
    clear hr5 hg5 PK hi4
    go_wp2_with fail
    go_ret2
    exact hfin.out
  · by_cases hz : q = 0
    · have hz' : ¬ (0 : Int) < (q : Int) := by omega
      clear hi4 hz
      go_wp2_with fail
      refine PK.out.mono ?_
      rintro e w5 ⟨x, rfl, x0, x1, hr5, hg5⟩
      have hfin := hidden (HT.out q c3 a3 (Nat.le_refl _) hc3 hm3 HF.out x w5 x0 x1 hg5)
      clear hr5 hg5 PK
      go_wp2_with fail
      go_ret2
      exact hfin.out
    · have hz' : (0 : Int) < (q : Int) := by omega
      obtain ⟨p, rfl⟩ : ∃ p, q = p + 1 := ⟨q - 1, by omega⟩
      obtain ⟨b, off, rfl, _, _⟩ := hi4.2 (by rw [HQ.out]; omega)
      have hpart := hidden (show Ints w4 .u8 w3.heap.size (some ⟨b, off, none⟩) (T.take p) from hi4.take p)
      have ht : Try.prog.underlying 22 = some (.slice (Try.prog.elem 22)) := by kernel_rfl
      have hzz : ∀ W, (sizeOf (Try.prog.elem 22)).run Try.prog W = .ok 1 W := fun W => by kernel_rfl
      have hsl : ∀ W : World, (Instr.slice 22 (.slice (some ⟨b, off, none⟩) (p + 1) c3) none (some (.int .i64 (p : Int))) none).run Try.prog W = .ok (.slice (some ⟨b, off, none⟩) p c3) W := fun W => by
        rw [run_slice_h W 22 (some ⟨b, off, none⟩) (p + 1) c3 ht .i64 (p : Int) (by omega) (by omega), hzz]
        simp [Result.andThen, sliced, Addr.add]
      clear hi4 ht hzz
      go_wp2_with fail
      refine PK.out.mono ?_
      rintro e w5 ⟨x, rfl, x0, x1, hr5, hg5⟩
      have hfin := hidden (HT.out p c3 _ (by omega) (by omega) hm3 hpart.out x w5 x0 x1 hg5)
      clear hr5 hg5 PK
      go_wp2_with fail
      go_ret2
      exact hfin.out

end Go.Proofs.Ytdaddhliedocaaa

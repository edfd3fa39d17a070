/-
  The laws' own marks over an object that is a result: what each cell bears then, and that it is found so again.
-/
import Derived.Test.YtjpclpjhigongaaMarkP
import Derived.Test.YtjpclpjhigongaaMarks
import Derived.Test.YtjpclpjhigongaaRoB
namespace Go.Proofs.Ytjpclpjhigongaa
open Go.RowKit

theorem markFixupS_nil (w : World) (a : Option Addr) (cap : Nat) (k : Int) :
    Calls Try.prog 71 #[.slice a 0 cap, .int .i64 k] w fun e w' => e = .returned (.int .i64 k) ∧ w = w' := by
  go_enter Try.func71, Try.ntmps71
  go_wp2
  go_rounds 1
  go_ret
  exact ⟨rfl, rfl⟩
theorem heldFixupS_nil (w : World) (a : Option Addr) (cap : Nat) (k : Int) :
    Calls Try.prog 73 #[.slice a 0 cap, .int .i64 k] w fun e w' => e = .returned (.int .i64 k) ∧ w = w' := by
  go_enter Try.func73, Try.ntmps73
  go_wp2
  go_rounds 1
  go_ret
  exact ⟨rfl, rfl⟩
theorem markSymbolS_nil (w : World) (a : Option Addr) (cap : Nat) (k : Int) :
    Calls Try.prog 46 #[.slice a 0 cap, .int .i64 k] w fun e w' => e = .returned (.int .i64 k) ∧ w = w' := by
  go_enter Try.func46, Try.ntmps46
  go_wp2
  go_rounds 1
  go_ret
  exact ⟨rfl, rfl⟩
theorem heldSymbolS_nil (w : World) (a : Option Addr) (cap : Nat) (k : Int) :
    Calls Try.prog 48 #[.slice a 0 cap, .int .i64 k] w fun e w' => e = .returned (.int .i64 k) ∧ w = w' := by
  go_enter Try.func48, Try.ntmps48
  go_wp2
  go_rounds 1
  go_ret
  exact ⟨rfl, rfl⟩
theorem markSectionS_nil (w : World) (a : Option Addr) (cap : Nat) (k : Int) :
    Calls Try.prog 45 #[.slice a 0 cap, .int .i64 k] w fun e w' => e = .returned (.int .i64 k) ∧ w = w' := by
  go_enter Try.func45, Try.ntmps45
  go_wp2
  go_rounds 1
  go_ret
  exact ⟨rfl, rfl⟩
theorem heldSectionS_nil (w : World) (a : Option Addr) (cap : Nat) (k : Int) :
    Calls Try.prog 47 #[.slice a 0 cap, .int .i64 k] w fun e w' => e = .returned (.int .i64 k) ∧ w = w' := by
  go_enter Try.func47, Try.ntmps47
  go_wp2
  go_rounds 1
  go_ret
  exact ⟨rfl, rfl⟩
/-- The first so many cells of a row bear the numbers from one on. -/
def FilledK (k : Int) (c : Array Value) (n : Nat) : Prop := ∀ j, j < n → c[j]? = some (.int .i64 (k + (j : Nat)))
theorem FilledK.next4 {k x : Int} {c : Array Value} {j : Nat} (h : FilledK k c (j * 4)) (hx : x = k + 4 * (j : Nat)) (hc : j * 4 + 3 < c.size) :
    FilledK k ((((c.setIfInBounds (j * 4) (.int .i64 x)).setIfInBounds (j * 4 + 1) (.int .i64 (x + 1))).setIfInBounds (j * 4 + 2) (.int .i64 (x + 1 + 1))).setIfInBounds (j * 4 + 3) (.int .i64 (x + 1 + 1 + 1))) ((j + 1) * 4) := fun i hi => by
  simp only [Array.getElem?_setIfInBounds, Array.size_setIfInBounds]
  by_cases e3 : j * 4 + 3 = i
  · rw [if_pos e3, if_pos (by omega)]; subst e3; rw [hx]; congr 2; omega
  rw [if_neg e3]
  by_cases e2 : j * 4 + 2 = i
  · rw [if_pos e2, if_pos (by omega)]; subst e2; rw [hx]; congr 2; omega
  rw [if_neg e2]
  by_cases e1 : j * 4 + 1 = i
  · rw [if_pos e1, if_pos (by omega)]; subst e1; rw [hx]; congr 2; omega
  rw [if_neg e1]
  by_cases e0 : j * 4 = i
  · rw [if_pos e0, if_pos (by omega)]; subst e0; rw [hx]; congr 2; omega
  rw [if_neg e0]
  exact h i (by omega)
set_option maxHeartbeats 2000000 in
theorem markFixupS_wide (w : World) (g len cap : Nat) (cs : Array Value) (k : Int) (h : Has w g 71 cs) (hs : len * 4 ≤ cs.size) (hk : 0 ≤ k) (hb : k + 4 * len ≤ 4611686018427387904) :
    Calls Try.prog 71 #[.slice (some ⟨g, 0, none⟩) len cap, .int .i64 k] w fun e w' => e = .returned (.int .i64 (k + 4 * len)) ∧ (∃ c, Has w' g 71 c ∧ c.size = cs.size ∧ FilledK k c (len * 4)) ∧ w.grownBy w' (some g) := by
  go_enter Try.func71, Try.ntmps71
  go_wp2
  go_loopw [1, 5] (fun m i wr => ∃ (j : Nat) (c : Array Value) (x : Int), j ≤ len ∧ i = .int .i64 j ∧ m = .int .i64 x ∧ Hid (x = k + 4 * j) ∧ 0 ≤ x ∧ x ≤ 4611686018427387904 ∧ Hid (c.size = cs.size ∧ FilledK k c (j * 4)) ∧ Has wr g 71 c ∧ w.grownBy wr (some g))
    (fun _ i _ => len - (intOf i).toNat)
  case atStart => exact ⟨0, cs, k, by omega, rfl, rfl, hidden (by simp), hk, by omega, hidden ⟨rfl, fun j hj => by omega⟩, h, World.grownBy.refl w _⟩
  case round =>
    obtain ⟨j, c, x, hj, rfl, rfl, hx, hx0, hx1, hf, hh, hg⟩ := hrel
    by_cases hlt : j < len
    · have HX : Hid (x + 1 + 1 + 1 + 1 = k + 4 * ((j + 1 : Nat) : Int)) := by have := hx.out; show _ = _; omega
      have hx2 : x + 4 ≤ 4611686018427387904 := by have := hx.out; omega
      have hi : (j : Int) < (len : Int) := by omega
      have hcs : j * 4 + 3 < c.size := by rw [hf.out.1]; omega
      obtain ⟨v0, hv0⟩ : ∃ v, c[j * 4]? = some v := ⟨_, Array.getElem?_eq_getElem (by omega)⟩
      obtain ⟨v1, hv1⟩ : ∃ v, c[j * 4 + 1]? = some v := ⟨_, Array.getElem?_eq_getElem (by omega)⟩
      obtain ⟨v2, hv2⟩ : ∃ v, c[j * 4 + 2]? = some v := ⟨_, Array.getElem?_eq_getElem (by omega)⟩
      obtain ⟨v3, hv3⟩ : ∃ v, c[j * 4 + 3]? = some v := ⟨_, Array.getElem?_eq_getElem (by omega)⟩
      have e0 := (hh.cell (j * 4)).trans hv0
      have e1 := (hh.cell (j * 4 + 1)).trans hv1
      have e2 := (hh.cell (j * 4 + 2)).trans hv2
      have e3 := (hh.cell (j * 4 + 3)).trans hv3
      have f0 := hh.free (j * 4)
      have f1 := hh.free (j * 4 + 1)
      have f2 := hh.free (j * 4 + 2)
      have f3 := hh.free (j * 4 + 3)
      have HH := hidden hh
      have HG := hidden hg
      have hfn : Hid (((((c.setIfInBounds (j * 4) (.int .i64 x)).setIfInBounds (j * 4 + 1) (.int .i64 (x + 1))).setIfInBounds (j * 4 + 2) (.int .i64 (x + 1 + 1))).setIfInBounds (j * 4 + 3) (.int .i64 (x + 1 + 1 + 1))).size = cs.size ∧ FilledK k ((((c.setIfInBounds (j * 4) (.int .i64 x)).setIfInBounds (j * 4 + 1) (.int .i64 (x + 1))).setIfInBounds (j * 4 + 2) (.int .i64 (x + 1 + 1))).setIfInBounds (j * 4 + 3) (.int .i64 (x + 1 + 1 + 1))) ((j + 1) * 4)) :=
        ⟨by simp only [Array.size_setIfInBounds]; exact hf.out.1, hf.out.2.next4 hx.out hcs⟩
      clear hf hh hg hx hcs hv0 hv1 hv2 hv3 h
      go_wp2
      have hput := (((HH.out.put (j * 4) (.int .i64 x)).put (j * 4 + 1) (.int .i64 (x + 1))).put (j * 4 + 2) (.int .i64 (x + 1 + 1))).put (j * 4 + 3) (.int .i64 (x + 1 + 1 + 1))
      have hgp := only_trans (only_trans (only_trans (only_trans HG.out (only_put' (g := g) (j * 4) (.int .i64 x))) (only_put' (g := g) (j * 4 + 1) (.int .i64 (x + 1)))) (only_put' (g := g) (j * 4 + 2) (.int .i64 (x + 1 + 1)))) (only_put' (g := g) (j * 4 + 3) (.int .i64 (x + 1 + 1 + 1)))
      go_roundw
      case rel => exact ⟨j + 1, _, _, by omega, by go_num, rfl, HX, by omega, by omega, hfn, hput, hgp⟩
      case measure => simp [intOf]; omega
    · have hxe : x = k + 4 * len := by have := hx.out; omega
      have HE := hidden hxe
      have hjl : j = len := by omega
      have HF : Hid (c.size = cs.size ∧ FilledK k c (len * 4)) := by rw [hjl] at hf; exact hf
      have hlt' : ¬ (j : Int) < (len : Int) := by omega
      clear hf hx hxe hjl
      go_wp2
      go_ret
      exact ⟨ret_int HE.out, ⟨c, hh, HF.out.1, HF.out.2⟩, hg⟩
set_option maxHeartbeats 2000000 in
theorem heldFixupS_wide (w : World) (g len cap : Nat) (k : Int) (h : ∀ j, j < len * 4 → w.cell? ⟨g, j, none⟩ = some (.int .i64 (k + (j : Nat)))) (hk : 0 ≤ k) (hb : k + 4 * len ≤ 4611686018427387904) :
    Calls Try.prog 73 #[.slice (some ⟨g, 0, none⟩) len cap, .int .i64 k] w fun e w' => e = .returned (.int .i64 (k + 4 * len)) ∧ w = w' := by
  have hc := hidden h
  clear h
  go_enter Try.func73, Try.ntmps73
  go_wp2
  go_loop [1, 5] (fun m i => ∃ (j : Nat) (x : Int), j ≤ len ∧ i = .int .i64 j ∧ m = .int .i64 x ∧ Hid (x = k + 4 * j) ∧ 0 ≤ x ∧ x ≤ 4611686018427387904) (fun _ i => len - (intOf i).toNat)
  case atStart => exact ⟨0, k, by omega, rfl, rfl, hidden (by simp), hk, by omega⟩
  case round =>
    obtain ⟨j, x, hj, rfl, rfl, hx, hx0, hx1⟩ := hrel
    by_cases hlt : j < len
    · have e0 : w.cell? ⟨g, j * 4, none⟩ = some (.int .i64 x) := by rw [hc.out (j * 4) (by omega), hx.out]; congr 2; omega
      have e1 : w.cell? ⟨g, j * 4 + 1, none⟩ = some (.int .i64 (x + 1)) := by rw [hc.out (j * 4 + 1) (by omega), hx.out]; congr 2; omega
      have e2 : w.cell? ⟨g, j * 4 + 2, none⟩ = some (.int .i64 (x + 1 + 1)) := by rw [hc.out (j * 4 + 2) (by omega), hx.out]; congr 2; omega
      have e3 : w.cell? ⟨g, j * 4 + 3, none⟩ = some (.int .i64 (x + 1 + 1 + 1)) := by rw [hc.out (j * 4 + 3) (by omega), hx.out]; congr 2; omega
      have HX : Hid (x + 1 + 1 + 1 + 1 = k + 4 * ((j + 1 : Nat) : Int)) := by have := hx.out; show _ = _; omega
      have hx2 : x + 4 ≤ 4611686018427387904 := by have := hx.out; omega
      have hi : (j : Int) < (len : Int) := by omega
      clear hx
      go_wp2
      go_round
      case rel => exact ⟨j + 1, _, by omega, by go_num, rfl, HX, by omega, by omega⟩
      case measure => simp [intOf]; omega
    · have hxe := hidden (show x = k + 4 * len by have := hx.out; omega)
      have hlt' : ¬ (j : Int) < (len : Int) := by omega
      clear hx
      go_wp2
      go_ret
      exact ⟨ret_int hxe.out, rfl⟩
/-- The first so many symbols of a row bear the marks from a number on. -/
def FilledY (k : Int) (c : Array Value) (n : Nat) : Prop := ∀ j, j < n → c[j * 4]? = some (.string (markOf (k + 4 * (j : Nat)))) ∧ c[j * 4 + 1]? = some (.int .i64 (k + 4 * (j : Nat) + 1)) ∧ c[j * 4 + 2]? = some (.int .i64 (k + 4 * (j : Nat) + 1 + 1)) ∧ c[j * 4 + 3]? = some (.int .i64 (k + 4 * (j : Nat) + 1 + 1 + 1))
theorem FilledY.next {k x : Int} {c : Array Value} {j : Nat} {T : ByteArray} (h : FilledY k c j) (hx : x = k + 4 * (j : Nat)) (hT : markOf x = T) (hc : j * 4 + 3 < c.size) :
    FilledY k ((((c.setIfInBounds (j * 4) (.string T)).setIfInBounds (j * 4 + 1) (.int .i64 (x + 1))).setIfInBounds (j * 4 + 2) (.int .i64 (x + 1 + 1))).setIfInBounds (j * 4 + 3) (.int .i64 (x + 1 + 1 + 1))) (j + 1) := fun i hi => by
  simp only [Array.getElem?_setIfInBounds, Array.size_setIfInBounds]
  by_cases e : i = j
  · subst e
    rw [if_neg (by omega), if_neg (by omega), if_neg (by omega), if_pos rfl, if_pos (by omega), if_neg (by omega), if_neg (by omega), if_pos rfl, if_pos (by omega), if_neg (by omega), if_pos rfl, if_pos (by omega), if_pos rfl, if_pos (by omega), ← hx, hT]
    exact ⟨rfl, rfl, rfl, rfl⟩
  · obtain ⟨h0, h1, h2, h3⟩ := h i (by omega)
    refine ⟨?_, ?_, ?_, ?_⟩
    · rw [if_neg (by omega), if_neg (by omega), if_neg (by omega), if_neg (by omega)]; exact h0
    · rw [if_neg (by omega), if_neg (by omega), if_neg (by omega), if_neg (by omega)]; exact h1
    · rw [if_neg (by omega), if_neg (by omega), if_neg (by omega), if_neg (by omega)]; exact h2
    · rw [if_neg (by omega), if_neg (by omega), if_neg (by omega), if_neg (by omega)]; exact h3
set_option maxHeartbeats 2000000 in
theorem markSymbolS_wide (w : World) (g len cap : Nat) (cs : Array Value) (k : Int) (h : Has w g 59 cs) (hs : len * 4 ≤ cs.size) (hk : 0 ≤ k) (hb : k + 4 * len ≤ 4611686018427387904) :
    Calls Try.prog 46 #[.slice (some ⟨g, 0, none⟩) len cap, .int .i64 k] w fun e w' => e = .returned (.int .i64 (k + 4 * len)) ∧ (∃ c, Has w' g 59 c ∧ c.size = cs.size ∧ FilledY k c len) ∧ w.grownBy w' (some g) := by
  go_enter Try.func46, Try.ntmps46
  go_wp2
  go_loopw [1, 5] (fun m i wr => ∃ (j : Nat) (c : Array Value) (x : Int), j ≤ len ∧ i = .int .i64 j ∧ m = .int .i64 x ∧ Hid (x = k + 4 * j) ∧ 0 ≤ x ∧ x ≤ 4611686018427387904 ∧ Hid (c.size = cs.size ∧ FilledY k c j) ∧ Has wr g 59 c ∧ w.grownBy wr (some g))
    (fun _ i _ => len - (intOf i).toNat)
  case atStart => exact ⟨0, cs, k, by omega, rfl, rfl, hidden (by simp), hk, by omega, hidden ⟨rfl, fun j hj => by omega⟩, h, World.grownBy.refl w _⟩
  case round =>
    obtain ⟨j, c, x, hj, rfl, rfl, hx, hx0, hx1, hf, hh, hg⟩ := hrel
    by_cases hlt : j < len
    · have HX : Hid (x + 1 + 1 + 1 + 1 = k + 4 * ((j + 1 : Nat) : Int)) := by have := hx.out; show _ = _; omega
      have hx2 : x + 4 ≤ 4611686018427387904 := by have := hx.out; omega
      have hi : (j : Int) < (len : Int) := by omega
      have HH0 := hidden hh
      have HG0 := hidden hg
      have HFS := hf
      have HXE := hx
      clear hf hh hg hx h
      go_wp2_with fail
      refine (markText_of _ x hx0 hx1).mono ?_
      rintro _ w2 ⟨rfl, hb2⟩
      obtain ⟨T, hT⟩ : ∃ T, markOf x = T := ⟨_, rfl⟩
      rw [hT]
      have hh : Has w2 g 59 c := HH0.out.below hb2 HH0.out.lt
      have hg : w.grownBy w2 (some g) := only_trans HG0.out ⟨hb2.os, hb2.tape, hb2.output, hb2.size, fun i hi _ => hb2.block i hi⟩
      have hcs : j * 4 + 3 < c.size := by rw [HFS.out.1]; omega
      obtain ⟨v0, hv0⟩ : ∃ v, c[j * 4]? = some v := ⟨_, Array.getElem?_eq_getElem (by omega)⟩
      obtain ⟨v1, hv1⟩ : ∃ v, c[j * 4 + 1]? = some v := ⟨_, Array.getElem?_eq_getElem (by omega)⟩
      obtain ⟨v2, hv2⟩ : ∃ v, c[j * 4 + 2]? = some v := ⟨_, Array.getElem?_eq_getElem (by omega)⟩
      obtain ⟨v3, hv3⟩ : ∃ v, c[j * 4 + 3]? = some v := ⟨_, Array.getElem?_eq_getElem (by omega)⟩
      have e0 := (hh.cell (j * 4)).trans hv0
      have e1 := (hh.cell (j * 4 + 1)).trans hv1
      have e2 := (hh.cell (j * 4 + 2)).trans hv2
      have e3 := (hh.cell (j * 4 + 3)).trans hv3
      have f0 := hh.free (j * 4)
      have f1 := hh.free (j * 4 + 1)
      have f2 := hh.free (j * 4 + 2)
      have f3 := hh.free (j * 4 + 3)
      have HH := hidden hh
      have HG := hidden hg
      have hfn : Hid (((((c.setIfInBounds (j * 4) (.string T)).setIfInBounds (j * 4 + 1) (.int .i64 (x + 1))).setIfInBounds (j * 4 + 2) (.int .i64 (x + 1 + 1))).setIfInBounds (j * 4 + 3) (.int .i64 (x + 1 + 1 + 1))).size = cs.size ∧ FilledY k ((((c.setIfInBounds (j * 4) (.string T)).setIfInBounds (j * 4 + 1) (.int .i64 (x + 1))).setIfInBounds (j * 4 + 2) (.int .i64 (x + 1 + 1))).setIfInBounds (j * 4 + 3) (.int .i64 (x + 1 + 1 + 1))) (j + 1)) :=
        ⟨by simp only [Array.size_setIfInBounds]; exact HFS.out.1, HFS.out.2.next HXE.out hT hcs⟩
      clear hh hg hcs hv0 hv1 hv2 hv3 HH0 HG0 hb2 hT HFS HXE
      go_wp2
      have hput := (((HH.out.put (j * 4) (.string T)).put (j * 4 + 1) (.int .i64 (x + 1))).put (j * 4 + 2) (.int .i64 (x + 1 + 1))).put (j * 4 + 3) (.int .i64 (x + 1 + 1 + 1))
      have hgp := only_trans (only_trans (only_trans (only_trans HG.out (only_put' (g := g) (j * 4) (.string T))) (only_put' (g := g) (j * 4 + 1) (.int .i64 (x + 1)))) (only_put' (g := g) (j * 4 + 2) (.int .i64 (x + 1 + 1)))) (only_put' (g := g) (j * 4 + 3) (.int .i64 (x + 1 + 1 + 1)))
      go_roundw
      case rel => exact ⟨j + 1, _, _, by omega, by go_num, rfl, HX, by omega, by omega, hfn, hput, hgp⟩
      case measure => simp [intOf]; omega
    · have hxe : x = k + 4 * len := by have := hx.out; omega
      have HE := hidden hxe
      have hjl : j = len := by omega
      have HF : Hid (c.size = cs.size ∧ FilledY k c len) := by rw [hjl] at hf; exact hf
      have hlt' : ¬ (j : Int) < (len : Int) := by omega
      clear hf hx hxe hjl
      go_wp2
      go_ret
      exact ⟨ret_int HE.out, ⟨c, hh, HF.out.1, HF.out.2⟩, hg⟩
set_option maxHeartbeats 2000000 in
theorem heldSymbolS_wide (w : World) (g len cap : Nat) (k : Int) (hg : g < w.heap.size) (h : ∀ j, j < len → w.cell? ⟨g, j * 4, none⟩ = some (.string (markOf (k + 4 * (j : Nat)))) ∧ w.cell? ⟨g, j * 4 + 1, none⟩ = some (.int .i64 (k + 4 * (j : Nat) + 1)) ∧ w.cell? ⟨g, j * 4 + 2, none⟩ = some (.int .i64 (k + 4 * (j : Nat) + 1 + 1)) ∧ w.cell? ⟨g, j * 4 + 3, none⟩ = some (.int .i64 (k + 4 * (j : Nat) + 1 + 1 + 1))) (hk : 0 ≤ k) (hb : k + 4 * len ≤ 4611686018427387904) :
    Calls Try.prog 48 #[.slice (some ⟨g, 0, none⟩) len cap, .int .i64 k] w fun e w' => e = .returned (.int .i64 (k + 4 * len)) ∧ Below w.heap.size w w' := by
  have HC := hidden h
  clear h
  go_enter Try.func48, Try.ntmps48
  go_wp2
  go_loopw [1, 5] (fun m i wr => ∃ (j : Nat) (x : Int), j ≤ len ∧ i = .int .i64 j ∧ m = .int .i64 x ∧ Hid (x = k + 4 * j) ∧ 0 ≤ x ∧ x ≤ 4611686018427387904 ∧ Below w.heap.size w wr) (fun _ i _ => len - (intOf i).toNat)
  case atStart => exact ⟨0, k, by omega, rfl, rfl, hidden (by simp), hk, by omega, Below.refl _ _⟩
  case round =>
    obtain ⟨j, x, hj, rfl, rfl, hx, hx0, hx1, hbw⟩ := hrel
    by_cases hlt : j < len
    · have HX : Hid (x + 1 + 1 + 1 + 1 = k + 4 * ((j + 1 : Nat) : Int)) := by have := hx.out; show _ = _; omega
      have hx2 : x + 4 ≤ 4611686018427387904 := by have := hx.out; omega
      have hi : (j : Int) < (len : Int) := by omega
      obtain ⟨T, hT⟩ : ∃ T, markOf x = T := ⟨_, rfl⟩
      have HP : Hid (∀ W, Below wr.heap.size wr W → W.cell? ⟨g, j * 4, none⟩ = some (.string T) ∧ W.cell? ⟨g, j * 4 + 1, none⟩ = some (.int .i64 (x + 1)) ∧ W.cell? ⟨g, j * 4 + 2, none⟩ = some (.int .i64 (x + 1 + 1)) ∧ W.cell? ⟨g, j * 4 + 3, none⟩ = some (.int .i64 (x + 1 + 1 + 1))) := fun W hW => by
        have hs : g < wr.heap.size := Nat.lt_of_lt_of_le hg hbw.size
        have e : ∀ q, W.cell? ⟨g, q, none⟩ = w.cell? ⟨g, q, none⟩ := fun q => (hW.cell (p := ⟨g, q, none⟩) hs).trans (hbw.cell hg)
        have := HC.out j hlt
        rw [← hx.out, hT] at this
        rw [e, e, e, e]
        exact this
      have HM : Hid (∀ W : World, Calls Try.prog 69 #[.int .i64 x] W fun e w' => e = .returned (.string T) ∧ Below W.heap.size W w') := fun W => by
        have := markText_of W x hx0 hx1
        rwa [hT] at this
      have hss : (T.toList == T.toList) = true := beq_self_eq_true _
      have HBW := hidden hbw
      clear hT hx hbw
      go_upto_region 4 with fail
      refine wp_region_seq (by kernel_rfl) (fun W => Below wr.heap.size wr W) (by kernel_rfl) (Below.refl _ _).drew ?_
      refine SeqV.step (.slice (some ⟨g, 0, none⟩) len cap) (by rfl) (fun W hW => ?_) ?_
      · unfold Oper.wp
        simp [go_sem]
        try exact hW
      simp only [Act.put, List.setIfInBounds_toArray, List.set_cons_succ, List.set_cons_zero]
      refine SeqV.step (.int .i64 j) (by rfl) (fun W hW => ?_) ?_
      · unfold Oper.wp
        simp [go_sem]
        try exact hW
      simp only [Act.put, List.setIfInBounds_toArray, List.set_cons_succ, List.set_cons_zero]
      refine SeqV.step (.pointer (some ⟨g, j * 4, none⟩)) (by rfl) (fun W hW => ?_) ?_
      · have q := hi; unfold Oper.wp
        simp [go_sem, *]
        try exact hW
      simp only [Act.put, List.setIfInBounds_toArray, List.set_cons_succ, List.set_cons_zero]
      refine SeqV.step (.pointer (some ⟨g, j * 4, none⟩)) (by rfl) (fun W hW => ?_) ?_
      · unfold Oper.wp
        simp [go_sem]
        try exact hW
      simp only [Act.put, List.setIfInBounds_toArray, List.set_cons_succ, List.set_cons_zero]
      refine SeqV.step (.string T) (by rfl) (fun W hW => ?_) ?_
      · have q := (HP.out W hW).1; unfold Oper.wp
        simp [go_sem, *]
        try exact hW
      simp only [Act.put, List.setIfInBounds_toArray, List.set_cons_succ, List.set_cons_zero]
      refine SeqV.step (.int .i64 x) (by rfl) (fun W hW => ?_) ?_
      · unfold Oper.wp
        simp [go_sem]
        try exact hW
      simp only [Act.put, List.setIfInBounds_toArray, List.set_cons_succ, List.set_cons_zero]
      refine SeqV.step (.string T) (by rfl) (fun W hW => ?_) ?_
      · unfold Oper.wp
        simp [go_sem]
        refine (HM.out W).mono ?_; rintro e w' ⟨rfl, hb⟩; exact ⟨rfl, hW.trans (hb.mono hW.size)⟩
      simp only [Act.put, List.setIfInBounds_toArray, List.set_cons_succ, List.set_cons_zero]
      refine SeqV.step (.bool false) (by rfl) (fun W hW => ?_) ?_
      · have q := hss; unfold Oper.wp
        simp [go_sem, *]
        try exact hW
      simp only [Act.put, List.setIfInBounds_toArray, List.set_cons_succ, List.set_cons_zero]
      intro W hW
      obtain ⟨-, q1, q2, q3⟩ := HP.out W hW
      clear HP HM
      go_wp2_with fail
      go_roundw
      case rel => exact ⟨j + 1, _, by omega, by go_num, rfl, HX, by omega, by omega, HBW.out.trans (hW.mono HBW.out.size)⟩
      case measure => simp [intOf]; omega
    · have hxe : x = k + 4 * len := by have := hx.out; omega
      have HE := hidden hxe
      have hlt' : ¬ (j : Int) < (len : Int) := by omega
      clear hx hxe
      go_wp2
      go_ret
      exact ⟨ret_int HE.out, hbw⟩
/-- How many marks a section takes, and where the i-th one's begin. -/
def costS (y : Sp) : Nat := 4 + y.s.bytes.length + 4 * y.s.fixs.length
def startS (l : List Sp) (i : Nat) : Nat := ((l.take i).map costS).sum
theorem startS_next {l : List Sp} {i : Nat} {y : Sp} (h : l[i]? = some y) : startS l (i + 1) = startS l i + costS y := by
  unfold startS
  rw [List.take_add_one, h, List.map_append, List.sum_append]
  simp
theorem startS_mono (l : List Sp) (i : Nat) : startS l i ≤ startS l l.length := by
  unfold startS
  rw [List.take_length]
  have : ∀ (q : List Sp) (i : Nat), ((q.take i).map costS).sum ≤ (q.map costS).sum := by
    intro q
    induction q with
    | nil => intro i; simp
    | cons z r ih =>
      intro i
      cases i with
      | zero => simp
      | succ i => rw [List.take_succ_cons, List.map_cons, List.map_cons, List.sum_cons, List.sum_cons]; have := ih i; omega
  exact this l i
theorem startS_ge (l : List Sp) : 4 * l.length ≤ startS l l.length := by
  unfold startS
  rw [List.take_length]
  induction l with
  | nil => simp
  | cons z r ih => rw [List.map_cons, List.sum_cons, List.length_cons]; unfold costS at ih ⊢; omega
theorem startS_same {l l' : List Sp} (h : l'.map Sp.s = l.map Sp.s) (i : Nat) : startS l' i = startS l i := by
  have e : ∀ q : List Sp, startS q i = (((q.map Sp.s).take i).map fun s => 4 + s.bytes.length + 4 * s.fixs.length).sum := fun q => by
    unfold startS
    rw [← List.map_take, List.map_map]; rfl
  rw [e, e, h]
/-- The bytes of a section of a result: a block of its own, and, if so, with the marks from a number on. -/
def ByR (W : World) (lo : Nat) (y : Sp) (mk : Option Int) : Prop := 0 < y.s.bytes.length → ∃ q cur, y.a1 = some ⟨q, 0, none⟩ ∧ lo ≤ q ∧ Has W q 5 cur ∧ y.s.bytes.length ≤ cur.size ∧ ∀ k, mk = some k → ∀ j, j < y.s.bytes.length → cur[j]? = some (.int .u8 ((k + (j : Nat)) % 256))
def FxM (W : World) (lo : Nat) (y : Sp) (mk : Option Int) : Prop := 0 < y.s.fixs.length → ∃ q cur, y.a2 = some ⟨q, 0, none⟩ ∧ lo ≤ q ∧ Has W q 71 cur ∧ y.s.fixs.length * 4 ≤ cur.size ∧ ∀ k, mk = some k → FilledK k cur (y.s.fixs.length * 4)
section
variable {W W' : World} {lo : Nat} {y : Sp} {mk : Option Int}
theorem ByR.only (h : ByR W lo y mk) {b : Nat} (hg : W.grownBy W' (some b)) (hb : ∀ q, 0 < y.s.bytes.length → y.a1 = some ⟨q, 0, none⟩ → q ≠ b) : ByR W' lo y mk := fun hn => by
  obtain ⟨q, cur, h1, h2, h3, h4⟩ := h hn
  exact ⟨q, cur, h1, h2, h3.grown hg (fun e => by injection e with e; exact hb q hn h1 e), h4⟩
theorem FxM.only (h : FxM W lo y mk) {b : Nat} (hg : W.grownBy W' (some b)) (hb : ∀ q, 0 < y.s.fixs.length → y.a2 = some ⟨q, 0, none⟩ → q ≠ b) : FxM W' lo y mk := fun hn => by
  obtain ⟨q, cur, h1, h2, h3, h4⟩ := h hn
  exact ⟨q, cur, h1, h2, h3.grown hg (fun e => by injection e with e; exact hb q hn h1 e), h4⟩
theorem ByR.below (h : ByR W lo y mk) (hb : Below W.heap.size W W') : ByR W' lo y mk := fun hn => by
  obtain ⟨q, cur, h1, h2, h3, h4⟩ := h hn
  exact ⟨q, cur, h1, h2, h3.below hb h3.lt, h4⟩
theorem FxM.below (h : FxM W lo y mk) (hb : Below W.heap.size W W') : FxM W' lo y mk := fun hn => by
  obtain ⟨q, cur, h1, h2, h3, h4⟩ := h hn
  exact ⟨q, cur, h1, h2, h3.below hb h3.lt, h4⟩
/-- A block of another type is written. -/
theorem ByR.type (h : ByR W lo y mk) {b : Nat} {T : TypeId} {cs : Array Value} (hg : W.grownBy W' (some b)) (hh : Has W b T cs) (hT : T ≠ 5) : ByR W' lo y mk := fun hn => by
  obtain ⟨q, cur, h1, h2, h3, h4⟩ := h hn
  exact ⟨q, cur, h1, h2, h3.grown hg (fun e => by injection e with e; exact hh.differ h3 hT e.symm), h4⟩
theorem FxM.type (h : FxM W lo y mk) {b : Nat} {T : TypeId} {cs : Array Value} (hg : W.grownBy W' (some b)) (hh : Has W b T cs) (hT : T ≠ 71) : FxM W' lo y mk := fun hn => by
  obtain ⟨q, cur, h1, h2, h3, h4⟩ := h hn
  exact ⟨q, cur, h1, h2, h3.grown hg (fun e => by injection e with e; exact hh.differ h3 hT e.symm), h4⟩
theorem ByR.none_ (h : ByR W lo y mk) : ByR W lo y none := fun hn => by
  obtain ⟨q, cur, h1, h2, h3, h4, _⟩ := h hn
  exact ⟨q, cur, h1, h2, h3, h4, fun k e => by cases e⟩
theorem FxM.none_ (h : FxM W lo y mk) : FxM W lo y none := fun hn => by
  obtain ⟨q, cur, h1, h2, h3, h4, _⟩ := h hn
  exact ⟨q, cur, h1, h2, h3, h4, fun k e => by cases e⟩
end
/-- A row of sections of a result: its lists' slots stand, and the first so many bear the marks. -/
structure SecR (c : Array Value) (l : List Sp) (k : Int) (n : Nat) : Prop where
  size : l.length * 6 ≤ c.size
  kept : ∀ i y, l[i]? = some y → c[i * 6 + 3]? = some (.slice y.a1 y.s.bytes.length y.c1) ∧ c[i * 6 + 5]? = some (.slice y.a2 y.s.fixs.length y.c2)
  marks : ∀ i y, i < n → l[i]? = some y → c[i * 6]? = some (.string (markOf (k + (startS l i : Nat)))) ∧ c[i * 6 + 1]? = some (.int .i64 (k + (startS l i : Nat) + 1)) ∧ c[i * 6 + 2]? = some (.int .i64 (k + (startS l i : Nat) + 1 + 1)) ∧ c[i * 6 + 4]? = some (.int .i64 (k + (startS l i : Nat) + 1 + 1 + 1 + (y.s.bytes.length : Nat)))
theorem SecR.next {c : Array Value} {l : List Sp} {k x : Int} {j : Nat} {y : Sp} {T : ByteArray} (h : SecR c l k j) (hy : l[j]? = some y) (hx : x = k + (startS l j : Nat)) (hT : markOf x = T) {z : Int} (hz : x + 1 + 1 + 1 + (y.s.bytes.length : Nat) = z) :
    SecR ((((c.setIfInBounds (j * 6) (.string T)).setIfInBounds (j * 6 + 1) (.int .i64 (x + 1))).setIfInBounds (j * 6 + 2) (.int .i64 (x + 1 + 1))).setIfInBounds (j * 6 + 4) (.int .i64 z)) l k (j + 1) := by
  have hjl : j < l.length := (List.getElem?_eq_some_iff.1 hy).1
  have hs := h.size
  refine ⟨by simp only [Array.size_setIfInBounds]; exact hs, fun i u hi => ?_, fun i u hi hu => ?_⟩
  · obtain ⟨q3, q5⟩ := h.kept i u hi
    simp only [Array.getElem?_setIfInBounds, Array.size_setIfInBounds]
    rw [if_neg (by omega), if_neg (by omega), if_neg (by omega), if_neg (by omega), if_neg (by omega), if_neg (by omega), if_neg (by omega), if_neg (by omega)]
    exact ⟨q3, q5⟩
  · simp only [Array.getElem?_setIfInBounds, Array.size_setIfInBounds]
    by_cases e : i = j
    · subst e
      obtain rfl : y = u := by rw [hy] at hu; exact Option.some.inj hu
      rw [if_neg (by omega), if_neg (by omega), if_neg (by omega), if_pos rfl, if_pos (by omega), if_neg (by omega), if_neg (by omega), if_pos rfl, if_pos (by omega), if_neg (by omega), if_pos rfl, if_pos (by omega), if_pos rfl, if_pos (by omega), ← hx, hT, hz]
      exact ⟨rfl, rfl, rfl, rfl⟩
    · obtain ⟨h0, h1, h2, h4⟩ := h.marks i u (by omega) hu
      rw [if_neg (by omega), if_neg (by omega), if_neg (by omega), if_neg (by omega), if_neg (by omega), if_neg (by omega), if_neg (by omega), if_neg (by omega), if_neg (by omega), if_neg (by omega), if_neg (by omega), if_neg (by omega), if_neg (by omega), if_neg (by omega), if_neg (by omega), if_neg (by omega)]
      exact ⟨h0, h1, h2, h4⟩
/-- No two sections of a result share their lists. -/
def Apart2 (l : List Sp) : Prop := ∀ (i j : Nat) (y z : Sp) (q : Nat), i ≠ j → l[i]? = some y → l[j]? = some z → (y.a1 = some ⟨q, 0, none⟩ → z.a1 ≠ some ⟨q, 0, none⟩) ∧ (y.a2 = some ⟨q, 0, none⟩ → z.a2 ≠ some ⟨q, 0, none⟩)
/-- The block of a section's bytes, and of its fixups, if there are any. -/
def blkB (y : Sp) : Option Nat := if 0 < y.s.bytes.length then y.a1.map Addr.block else none
def blkF (y : Sp) : Option Nat := if 0 < y.s.fixs.length then y.a2.map Addr.block else none
theorem ByR.blk {W : World} {lo : Nat} {y : Sp} {mk : Option Int} (h : ByR W lo y mk) {q : Nat} (e : blkB y = some q) : lo ≤ q ∧ y.a1 = some ⟨q, 0, none⟩ ∧ 0 < y.s.bytes.length ∧ ∃ cs, Has W q 5 cs := by
  unfold blkB at e
  split at e
  · rename_i hp
    obtain ⟨p, cur, h1, h2, h3, _⟩ := h hp
    rw [h1] at e
    injection e with e
    subst e
    exact ⟨h2, h1, hp, cur, h3⟩
  · cases e
theorem FxM.blk {W : World} {lo : Nat} {y : Sp} {mk : Option Int} (h : FxM W lo y mk) {q : Nat} (e : blkF y = some q) : lo ≤ q ∧ y.a2 = some ⟨q, 0, none⟩ ∧ 0 < y.s.fixs.length ∧ ∃ cs, Has W q 71 cs := by
  unfold blkF at e
  split at e
  · rename_i hp
    obtain ⟨p, cur, h1, h2, h3, _⟩ := h hp
    rw [h1] at e
    injection e with e
    subst e
    exact ⟨h2, h1, hp, cur, h3⟩
  · cases e
theorem mark_bytes (w : World) (lo : Nat) (y : Sp) (n : Nat) (hn : n = y.s.bytes.length) (k : Int) (h : ByR w lo y none) (hk : 0 ≤ k) (hb : k + n ≤ 4611686018427387904) :
    Calls Try.prog 70 #[.slice y.a1 n y.c1, .int .i64 k] w fun e w' => e = .returned (.int .i64 (k + n)) ∧ ByR w' lo y (some k) ∧ w.grownBy w' (blkB y) := by
  subst hn
  rcases Nat.eq_zero_or_pos y.s.bytes.length with h0 | hpos
  · rw [h0]
    exact (markByteS_nil w y.a1 y.c1 k).mono fun e w' ⟨he, hw⟩ => ⟨by rw [he]; simp, fun hn => by omega, by rw [hw]; exact World.grownBy.refl _ _⟩
  · obtain ⟨q, cur, h1, h2, h3, h4, _⟩ := h hpos
    have hB : blkB y = some q := by unfold blkB; rw [if_pos hpos, h1]; rfl
    rw [hB, h1]
    refine (markByteS_wide w q _ y.c1 cur k h3 h4 hk hb).mono fun e w' ⟨he, ⟨c', hc', hm⟩, hg⟩ => ⟨he, fun _ => ⟨q, c', h1, h2, hc', ?_, fun k' e => by injection e with e; subst e; exact hm⟩, hg⟩
    have := (Array.getElem?_eq_some_iff.1 (hm (y.s.bytes.length - 1) (by omega))).1
    omega
theorem mark_fixs (w : World) (lo : Nat) (y : Sp) (n : Nat) (hn : n = y.s.fixs.length) (k : Int) (h : FxM w lo y none) (hk : 0 ≤ k) (hb : k + 4 * n ≤ 4611686018427387904) :
    Calls Try.prog 71 #[.slice y.a2 n y.c2, .int .i64 k] w fun e w' => e = .returned (.int .i64 (k + 4 * n)) ∧ FxM w' lo y (some k) ∧ w.grownBy w' (blkF y) := by
  subst hn
  rcases Nat.eq_zero_or_pos y.s.fixs.length with h0 | hpos
  · rw [h0]
    exact (markFixupS_nil w y.a2 y.c2 k).mono fun e w' ⟨he, hw⟩ => ⟨by rw [he]; simp, fun hn => by omega, by rw [hw]; exact World.grownBy.refl _ _⟩
  · obtain ⟨q, cur, h1, h2, h3, h4, _⟩ := h hpos
    have hB : blkF y = some q := by unfold blkF; rw [if_pos hpos, h1]; rfl
    rw [hB, h1]
    exact (markFixupS_wide w q _ y.c2 cur k h3 h4 hk hb).mono fun e w' ⟨he, ⟨c', hc', hs, hm⟩, hg⟩ => ⟨he, fun _ => ⟨q, c', h1, h2, hc', by rw [hs]; exact h4, fun k' e => by injection e with e; subst e; exact hm⟩, hg⟩
/-- The lists of all sections, with the marks that they bear so far. -/
def RowsX (W : World) (lo : Nat) (l : List Sp) (f1 f2 : Nat → Sp → Option Int) : Prop := ∀ i y, l[i]? = some y → ByR W lo y (f1 i y) ∧ FxM W lo y (f2 i y)
section
variable {W W' : World} {lo : Nat} {l : List Sp} {f1 f2 : Nat → Sp → Option Int}
theorem RowsX.below (h : RowsX W lo l f1 f2) (hb : Below W.heap.size W W') : RowsX W' lo l f1 f2 := fun i y hi => ⟨(h i y hi).1.below hb, (h i y hi).2.below hb⟩
theorem RowsX.type (h : RowsX W lo l f1 f2) {b : Nat} {T : TypeId} {cs : Array Value} (hg : W.grownBy W' (some b)) (hh : Has W b T cs) (h1 : T ≠ 5) (h2 : T ≠ 71) : RowsX W' lo l f1 f2 := fun i y hi => ⟨(h i y hi).1.type hg hh h1, (h i y hi).2.type hg hh h2⟩
theorem RowsX.congr (h : RowsX W lo l f1 f2) {g1 g2 : Nat → Sp → Option Int} (h1 : ∀ i y, l[i]? = some y → f1 i y = g1 i y) (h2 : ∀ i y, l[i]? = some y → f2 i y = g2 i y) : RowsX W lo l g1 g2 := fun i y hi => by rw [← h1 i y hi, ← h2 i y hi]; exact h i y hi
theorem RowsX.byte (h : RowsX W lo l f1 f2) (hap : Apart2 l) {j : Nat} {y : Sp} (hy : l[j]? = some y) {mk : Option Int} (hg : W.grownBy W' (blkB y)) (hm : ByR W' lo y mk) : RowsX W' lo l (fun i z => if i = j then mk else f1 i z) f2 := fun i z hi => by
  have hyb := (h j y hy).1
  refine ⟨?_, ?_⟩
  · show ByR W' lo z (if i = j then mk else f1 i z)
    by_cases e : i = j
    · subst e
      rw [if_pos rfl]
      obtain rfl : y = z := by rw [hy] at hi; exact Option.some.inj hi
      exact hm
    · rw [if_neg e]
      rcases hB : blkB y with _ | b
      · rw [hB] at hg
        exact (h i z hi).1.below ⟨hg.os, hg.tape, hg.output, hg.size, fun q hq => hg.block q hq (by simp)⟩
      · rw [hB] at hg
        obtain ⟨_, ha, _, _⟩ := hyb.blk hB
        exact (h i z hi).1.only hg (fun q _ hz e' => by subst e'; exact (hap j i y z q (fun e'' => e e''.symm) hy hi).1 ha hz)
  · rcases hB : blkB y with _ | b
    · rw [hB] at hg
      exact (h i z hi).2.below ⟨hg.os, hg.tape, hg.output, hg.size, fun q hq => hg.block q hq (by simp)⟩
    · rw [hB] at hg
      obtain ⟨_, _, _, cs, hh⟩ := hyb.blk hB
      exact (h i z hi).2.type hg hh (by decide)
theorem RowsX.fix (h : RowsX W lo l f1 f2) (hap : Apart2 l) {j : Nat} {y : Sp} (hy : l[j]? = some y) {mk : Option Int} (hg : W.grownBy W' (blkF y)) (hm : FxM W' lo y mk) : RowsX W' lo l f1 (fun i z => if i = j then mk else f2 i z) := fun i z hi => by
  have hyb := (h j y hy).2
  refine ⟨?_, ?_⟩
  · rcases hB : blkF y with _ | b
    · rw [hB] at hg
      exact (h i z hi).1.below ⟨hg.os, hg.tape, hg.output, hg.size, fun q hq => hg.block q hq (by simp)⟩
    · rw [hB] at hg
      obtain ⟨_, _, _, cs, hh⟩ := hyb.blk hB
      exact (h i z hi).1.type hg hh (by decide)
  · show FxM W' lo z (if i = j then mk else f2 i z)
    by_cases e : i = j
    · subst e
      rw [if_pos rfl]
      obtain rfl : y = z := by rw [hy] at hi; exact Option.some.inj hi
      exact hm
    · rw [if_neg e]
      rcases hB : blkF y with _ | b
      · rw [hB] at hg
        exact (h i z hi).2.below ⟨hg.os, hg.tape, hg.output, hg.size, fun q hq => hg.block q hq (by simp)⟩
      · rw [hB] at hg
        obtain ⟨_, ha, _, _⟩ := hyb.blk hB
        exact (h i z hi).2.only hg (fun q _ hz e' => by subst e'; exact (hap j i y z q (fun e'' => e e''.symm) hy hi).2 ha hz)
end
/-- Where the marks of a section's lists begin. -/
def mk1 (l : List Sp) (k : Int) (i : Nat) (_ : Sp) : Option Int := some (k + (startS l i : Nat) + 1 + 1 + 1)
def mk2 (l : List Sp) (k : Int) (i : Nat) (y : Sp) : Option Int := some (k + (startS l i : Nat) + 1 + 1 + 1 + (y.s.bytes.length : Nat) + 1)
/-- Blocks of other types stand. -/
def Keep3 (lo : Nat) (W W' : World) : Prop := Below lo W W' ∧ ∀ b T cs, T ≠ 5 → T ≠ 71 → T ≠ 64 → Has W b T cs → Has W' b T cs
theorem Keep3.refl (lo : Nat) (W : World) : Keep3 lo W W := ⟨Below.refl _ _, fun _ _ _ _ _ _ h => h⟩
theorem Keep3.trans {lo : Nat} {a b c : World} (h : Keep3 lo a b) (k : Keep3 lo b c) : Keep3 lo a c := ⟨h.1.trans k.1, fun q T cs h1 h2 h3 hh => k.2 q T cs h1 h2 h3 (h.2 q T cs h1 h2 h3 hh)⟩
theorem Keep3.below {lo : Nat} {a b : World} (hlo : lo ≤ a.heap.size) (h : Below a.heap.size a b) : Keep3 lo a b := ⟨h.mono hlo, fun _ _ _ _ _ _ hh => hh.below h hh.lt⟩
theorem Keep3.only {lo : Nat} {a b : World} {r : Option Nat} (hg : a.grownBy b r) (hlo : lo ≤ a.heap.size) (hr : ∀ q, r = some q → lo ≤ q ∧ ∃ T cs, Has a q T cs ∧ (T = 5 ∨ T = 71 ∨ T = 64)) : Keep3 lo a b :=
  ⟨(Below.refl _ _).grown hg hlo (fun q hq => (hr q hq).1), fun p T cs h1 h2 h3 hh => hh.grown hg (fun e => by
    obtain ⟨_, T', cs', hh', ht⟩ := hr p e.symm
    have : T ≠ T' := by rcases ht with rfl | rfl | rfl <;> assumption
    exact hh.differ hh' this rfl)⟩
set_option maxRecDepth 100000 in
set_option maxHeartbeats 4000000 in
theorem markSectionS_wide (w : World) (lo g n cap : Nat) (l : List Sp) (cs : Array Value) (k : Int) (hn : n = l.length) (h : Has w g 64 cs) (hx : SecR cs l k 0) (hl : lo ≤ g) (hr : RowsX w lo l (fun _ _ => none) (fun _ _ => none)) (hap : Apart2 l) (hk : 0 ≤ k) (hb : k + (startS l l.length : Nat) ≤ 4611686018427387904) :
    Calls Try.prog 45 #[.slice (some ⟨g, 0, none⟩) n cap, .int .i64 k] w fun e w' => e = .returned (.int .i64 (k + (startS l l.length : Nat))) ∧ (∃ c, Has w' g 64 c ∧ SecR c l k l.length) ∧ RowsX w' lo l (mk1 l k) (mk2 l k) ∧ Keep3 lo w w' := by
  have HN := hidden hn
  have HAP := hidden hap
  have HX0 := hidden hx
  have HR0 := hidden hr
  have hlow : lo ≤ w.heap.size := Nat.le_trans hl (Nat.le_of_lt h.lt)
  have hn6 : n ≤ 4611686018427387904 := by have := startS_ge l; omega
  have HB := hidden hb
  clear hn hap hx hr hb
  go_enter Try.func45, Try.ntmps45
  go_wp2
  go_loopw [1, 5] (fun m i wr => ∃ (j : Nat) (c : Array Value) (x : Int), j ≤ n ∧ i = .int .i64 j ∧ m = .int .i64 x ∧ Hid (x = k + (startS l j : Nat)) ∧ 0 ≤ x ∧ Hid (SecR c l k j) ∧ Has wr g 64 c ∧ Hid (RowsX wr lo l (fun i y => if i < j then mk1 l k i y else none) (fun i y => if i < j then mk2 l k i y else none)) ∧ Hid (Keep3 lo w wr))
    (fun _ i _ => n - (intOf i).toNat)
  case atStart => exact ⟨0, cs, k, by omega, rfl, rfl, (by show _ = _; simp [startS]), hk, HX0, h, hidden (HR0.out.congr (fun i y _ => by simp) (fun i y _ => by simp)), Keep3.refl _ _⟩
  case round =>
    obtain ⟨j, c, x, hj, rfl, rfl, hx, hx0, hsr, hhx, hrx, hkp⟩ := hrel
    clear h HX0 HR0
    have hlor : lo ≤ wr.heap.size := Nat.le_trans hl (Nat.le_of_lt hhx.lt)
    by_cases hlt : j < n
    · have hi' : (j : Int) < (n : Int) := by omega
      have hjl : j < l.length := by rw [← HN.out]; exact hlt
      obtain ⟨y, hy⟩ : ∃ y, l[j] = y := ⟨_, rfl⟩
      have HY : Hid (l[j]? = some y) := by show _ = _; rw [List.getElem?_eq_getElem hjl, hy]
      have hnx := startS_next HY.out
      have hle := startS_mono l (j + 1)
      obtain ⟨nb, hnb⟩ : ∃ n, y.s.bytes.length = n := ⟨_, rfl⟩
      obtain ⟨nf, hnf⟩ : ∃ n, y.s.fixs.length = n := ⟨_, rfl⟩
      have HXN : Hid (x + 1 + 1 + 1 + (nb : Int) + 1 + 4 * (nf : Int) = k + (startS l (j + 1) : Nat)) := by show _ = _; rw [hnx, hx.out]; unfold costS; rw [hnb, hnf]; omega
      have hbig : x + 1 + 1 + 1 + (nb : Int) + 1 + 4 * (nf : Int) ≤ 4611686018427387904 := by rw [HXN.out]; have := HB.out; omega
      have HNB := hidden hnb
      have HNF := hidden hnf
      have HSR := hsr
      have HXE := hx
      have HHX := hidden hhx
      clear hnx hle hy hnb hnf hx hsr hhx
      go_wp2_with fail
      refine (markText_of _ x (by omega) (by omega)).mono ?_
      rintro _ w2 ⟨rfl, hbl2⟩
      obtain ⟨T, hT⟩ : ∃ T, markOf x = T := ⟨_, rfl⟩
      rw [hT]
      have hh2 : Has w2 g 64 c := HHX.out.below hbl2 HHX.out.lt
      have hcs : j * 6 + 5 < c.size := by have := HSR.out.size; omega
      obtain ⟨v0, hv0⟩ : ∃ v, c[j * 6]? = some v := ⟨_, Array.getElem?_eq_getElem (by omega)⟩
      obtain ⟨v1, hv1⟩ : ∃ v, c[j * 6 + 1]? = some v := ⟨_, Array.getElem?_eq_getElem (by omega)⟩
      obtain ⟨v2, hv2⟩ : ∃ v, c[j * 6 + 2]? = some v := ⟨_, Array.getElem?_eq_getElem (by omega)⟩
      obtain ⟨v4, hv4⟩ : ∃ v, c[j * 6 + 4]? = some v := ⟨_, Array.getElem?_eq_getElem (by omega)⟩
      have hv3 := (HSR.out.kept j y HY.out).1
      have hv5 := (HSR.out.kept j y HY.out).2
      rw [HNB.out] at hv3
      rw [HNF.out] at hv5
      have e0 := (hh2.cell (j * 6)).trans hv0
      have e1 := (hh2.cell (j * 6 + 1)).trans hv1
      have e2 := (hh2.cell (j * 6 + 2)).trans hv2
      have e3 := (hh2.cell (j * 6 + 3)).trans hv3
      have f0 := hh2.free (j * 6)
      have f1 := hh2.free (j * 6 + 1)
      have f2 := hh2.free (j * 6 + 2)
      have hh3 := ((hh2.put (j * 6) (.string T)).put (j * 6 + 1) (.int .i64 (x + 1))).put (j * 6 + 2) (.int .i64 (x + 1 + 1))
      have hg3 : w2.grownBy (((w2.setCell ⟨g, j * 6, none⟩ (.string T)).setCell ⟨g, j * 6 + 1, none⟩ (.int .i64 (x + 1))).setCell ⟨g, j * 6 + 2, none⟩ (.int .i64 (x + 1 + 1))) (some g) := only_trans (only_trans (only_put' (g := g) (j * 6) (.string T)) (only_put' (g := g) (j * 6 + 1) (.int .i64 (x + 1)))) (only_put' (g := g) (j * 6 + 2) (.int .i64 (x + 1 + 1)))
      obtain ⟨w3, hw3⟩ : ∃ W, ((w2.setCell ⟨g, j * 6, none⟩ (.string T)).setCell ⟨g, j * 6 + 1, none⟩ (.int .i64 (x + 1))).setCell ⟨g, j * 6 + 2, none⟩ (.int .i64 (x + 1 + 1)) = W := ⟨_, rfl⟩
      obtain ⟨c3, hc3⟩ : ∃ C, ((c.setIfInBounds (j * 6) (.string T)).setIfInBounds (j * 6 + 1) (.int .i64 (x + 1))).setIfInBounds (j * 6 + 2) (.int .i64 (x + 1 + 1)) = C := ⟨_, rfl⟩
      rw [hw3, hc3] at hh3
      rw [hw3] at hg3
      have hs2 : lo ≤ w2.heap.size := Nat.le_trans hlor hbl2.size
      have HR3 := hidden ((hrx.out.below hbl2).type hg3 hh2 (by decide) (by decide))
      have HK3 := hidden ((hkp.out.trans (.below hlor hbl2)).trans (.only hg3 hs2 (fun q hq => by injection hq with hq; subst hq; exact ⟨hl, _, _, hh2, .inr (.inr rfl)⟩)))
      have k4 : c3[j * 6 + 4]? = some v4 := by rw [← hc3]; simp only [Array.getElem?_setIfInBounds, Array.size_setIfInBounds]; rw [if_neg (by omega), if_neg (by omega), if_neg (by omega)]; exact hv4
      have k5 : c3[j * 6 + 5]? = some (.slice y.a2 nf y.c2) := by rw [← hc3]; simp only [Array.getElem?_setIfInBounds, Array.size_setIfInBounds]; rw [if_neg (by omega), if_neg (by omega), if_neg (by omega)]; exact hv5
      have HW3 := hidden hw3
      have HC3 := hidden hc3
      have HTT := hidden hT
      have HH3 := hidden hh3
      have hbn : ByR w3 lo y none := by have := (HR3.out j y HY.out).1; simp only [Nat.lt_irrefl, if_false] at this; exact this
      have HBY := hidden (mark_bytes w3 lo y nb HNB.out.symm (x + 1 + 1 + 1) hbn (by omega) (by omega))
      have HBN := hidden hbn
      have hs3 : lo ≤ w3.heap.size := Nat.le_trans hl (Nat.le_of_lt HH3.out.lt)
      clear HHX hbl2 hh2 hcs hv0 hv1 hv2 hv3 hv4 hv5 hh3 hw3 hc3 hT hrx hkp hg3 hbn
      go_wp2_with fail
      rw [HW3.out]
      refine HBY.out.mono ?_
      clear HBY
      rintro _ w4 ⟨rfl, hby4, hgr4⟩
      have hh4 : Has w4 g 64 c3 := HH3.out.grown hgr4 (fun e => by obtain ⟨_, _, _, cs', hh'⟩ := HBN.out.blk e.symm; exact HH3.out.differ hh' (by decide) rfl)
      have e4 := (hh4.cell (j * 6 + 4)).trans k4
      have e5 := (hh4.cell (j * 6 + 5)).trans k5
      have f4 := hh4.free (j * 6 + 4)
      have HR4 := hidden (HR3.out.byte HAP.out HY.out hgr4 hby4)
      have HK4 := hidden (HK3.out.trans (.only hgr4 hs3 (fun q hq => by obtain ⟨h1, _, _, cs', hh'⟩ := HBN.out.blk hq; exact ⟨h1, _, _, hh', .inl rfl⟩)))
      obtain ⟨x4, hx4⟩ : ∃ z : Int, x + 1 + 1 + 1 + (nb : Int) = z := ⟨_, rfl⟩
      have hx40 : x + 3 ≤ x4 := by omega
      have hx41 : x4 + 1 + 4 * (nf : Int) ≤ 4611686018427387904 := by omega
      have HX4 := hidden hx4
      rw [hx4]
      have hh5 := hh4.put (j * 6 + 4) (.int .i64 x4)
      have hg5 : w4.grownBy (w4.setCell ⟨g, j * 6 + 4, none⟩ (.int .i64 x4)) (some g) := only_put' (g := g) (j * 6 + 4) (.int .i64 x4)
      obtain ⟨w5, hw5⟩ : ∃ W, w4.setCell ⟨g, j * 6 + 4, none⟩ (.int .i64 x4) = W := ⟨_, rfl⟩
      rw [hw5] at hh5 hg5
      have HR5 := hidden (HR4.out.type hg5 hh4 (by decide) (by decide))
      have HK5 := hidden (HK4.out.trans (.only hg5 (Nat.le_trans hl (Nat.le_of_lt hh4.lt)) (fun q hq => by injection hq with hq; subst hq; exact ⟨hl, _, _, hh4, .inr (.inr rfl)⟩)))
      have HW5 := hidden hw5
      have HH5 := hidden hh5
      have hfn : FxM w5 lo y none := by have := (HR5.out j y HY.out).2; simp only [Nat.lt_irrefl, if_false] at this; exact this
      have HFY := hidden (mark_fixs w5 lo y nf HNF.out.symm (x4 + 1) hfn (by omega) (by omega))
      have HFN := hidden hfn
      have hs5 : lo ≤ w5.heap.size := Nat.le_trans hl (Nat.le_of_lt HH5.out.lt)
      clear HH3 hby4 hgr4 hh4 hh5 hw5 hg5 hx4 e0 e1 e2 e3 f0 f1 f2 HW3 HR3 HR4 HK3 HK4 HBN hfn k4 k5
      go_wp2_with fail
      rw [HW5.out]
      refine HFY.out.mono ?_
      clear HFY
      rintro _ w6 ⟨rfl, hfx6, hgr6⟩
      have hh6 : Has w6 g 64 (c3.setIfInBounds (j * 6 + 4) (.int .i64 x4)) := HH5.out.grown hgr6 (fun e => by obtain ⟨_, _, _, cs', hh'⟩ := HFN.out.blk e.symm; exact HH5.out.differ hh' (by decide) rfl)
      have HK6 := hidden (HK5.out.trans (.only hgr6 hs5 (fun q hq => by obtain ⟨h1, _, _, cs', hh'⟩ := HFN.out.blk hq; exact ⟨h1, _, _, hh', .inr (.inl rfl)⟩)))
      have HR6 : Hid (RowsX w6 lo l (fun i y => if i < j + 1 then mk1 l k i y else none) (fun i y => if i < j + 1 then mk2 l k i y else none)) := by
        refine (HR5.out.fix HAP.out HY.out hgr6 hfx6).congr (fun i z hi => ?_) (fun i z hi => ?_)
        · by_cases e : i = j
          · subst e; rw [if_pos rfl, if_pos (by omega)]; unfold mk1; rw [← HXE.out]
          · rw [if_neg e]; by_cases e2 : i < j
            · rw [if_pos e2, if_pos (by omega)]
            · rw [if_neg e2, if_neg (by omega)]
        · by_cases e : i = j
          · subst e
            obtain rfl : y = z := by have := HY.out; rw [hi] at this; exact (Option.some.inj this).symm
            rw [if_pos rfl, if_pos (by omega)]; unfold mk2; rw [← HXE.out, HNB.out, HX4.out]
          · rw [if_neg e]; by_cases e2 : i < j
            · rw [if_pos e2, if_pos (by omega)]
            · rw [if_neg e2, if_neg (by omega)]
      have HS6 : Hid (SecR (c3.setIfInBounds (j * 6 + 4) (.int .i64 x4)) l k (j + 1)) := by
        show SecR _ _ _ _
        rw [← HC3.out]
        exact HSR.out.next HY.out HXE.out HTT.out (by rw [HNB.out]; exact HX4.out)
      have HX6 : Hid (x4 + 1 + 4 * (nf : Int) = k + (startS l (j + 1) : Nat)) := by show _ = _; rw [← HXN.out, ← HX4.out]
      clear HH5 hfx6 hgr6 e4 e5 f4 HW5 HR5 HK5 HFN HTT HC3 HSR HXE HXN
      go_wp2
      go_roundw
      case rel => exact ⟨j + 1, _, _, by omega, by go_num, rfl, HX6, by omega, HS6, hh6, HR6, HK6⟩
      case measure => simp [intOf]; omega
    · have hlt' : ¬ (j : Int) < (n : Int) := by omega
      have hjn : j = l.length := by rw [← HN.out]; omega
      have HE : Hid (x = k + (startS l l.length : Nat)) := by show _ = _; rw [hx.out, hjn]
      have HF : Hid ((∃ c, Has wr g 64 c ∧ SecR c l k l.length) ∧ RowsX wr lo l (mk1 l k) (mk2 l k) ∧ Keep3 lo w wr) := by
        refine ⟨⟨c, hhx, hjn ▸ hsr.out⟩, hrx.out.congr (fun i y hi => ?_) (fun i y hi => ?_), hkp.out⟩
        · rw [if_pos (by have := (List.getElem?_eq_some_iff.1 hi).1; omega)]
        · rw [if_pos (by have := (List.getElem?_eq_some_iff.1 hi).1; omega)]
      clear hx hsr hrx hkp hjn
      go_wp2
      go_ret
      exact ⟨ret_int HE.out, HF.out⟩
theorem held_bytes (w : World) (lo : Nat) (y : Sp) (n : Nat) (hn : n = y.s.bytes.length) (k : Int) (h : ByR w lo y (some k)) (hk : 0 ≤ k) (hb : k + n ≤ 4611686018427387904) :
    Calls Try.prog 72 #[.slice y.a1 n y.c1, .int .i64 k] w fun e w' => e = .returned (.int .i64 (k + n)) ∧ Below w.heap.size w w' := by
  subst hn
  rcases Nat.eq_zero_or_pos y.s.bytes.length with h0 | hpos
  · rw [h0]
    exact (heldByteS_nil w y.a1 y.c1 k).mono fun e w' ⟨he, hw⟩ => ⟨by rw [he]; simp, by rw [hw]; exact Below.refl _ _⟩
  · obtain ⟨q, cur, h1, h2, h3, h4, h5⟩ := h hpos
    rw [h1]
    exact (heldByteS_wide w q _ y.c1 k (fun j hj => (h3.cell j).trans (h5 k rfl j hj)) hk hb).mono fun e w' ⟨he, hw⟩ => ⟨he, by rw [hw]; exact Below.refl _ _⟩
theorem held_fixs (w : World) (lo : Nat) (y : Sp) (n : Nat) (hn : n = y.s.fixs.length) (k : Int) (h : FxM w lo y (some k)) (hk : 0 ≤ k) (hb : k + 4 * n ≤ 4611686018427387904) :
    Calls Try.prog 73 #[.slice y.a2 n y.c2, .int .i64 k] w fun e w' => e = .returned (.int .i64 (k + 4 * n)) ∧ Below w.heap.size w w' := by
  subst hn
  rcases Nat.eq_zero_or_pos y.s.fixs.length with h0 | hpos
  · rw [h0]
    exact (heldFixupS_nil w y.a2 y.c2 k).mono fun e w' ⟨he, hw⟩ => ⟨by rw [he]; simp, by rw [hw]; exact Below.refl _ _⟩
  · obtain ⟨q, cur, h1, h2, h3, h4, h5⟩ := h hpos
    rw [h1]
    exact (heldFixupS_wide w q _ y.c2 k (fun j hj => (h3.cell j).trans (h5 k rfl j hj)) hk hb).mono fun e w' ⟨he, hw⟩ => ⟨he, by rw [hw]; exact Below.refl _ _⟩
set_option maxRecDepth 100000 in
set_option maxHeartbeats 4000000 in
theorem heldSectionS_wide (w : World) (lo g n cap : Nat) (l : List Sp) (c : Array Value) (k : Int) (hn : n = l.length) (h : Has w g 64 c) (hx : SecR c l k l.length) (hr : RowsX w lo l (mk1 l k) (mk2 l k)) (hk : 0 ≤ k) (hb : k + (startS l l.length : Nat) ≤ 4611686018427387904) :
    Calls Try.prog 47 #[.slice (some ⟨g, 0, none⟩) n cap, .int .i64 k] w fun e w' => e = .returned (.int .i64 (k + (startS l l.length : Nat))) ∧ Below w.heap.size w w' := by
  have HN := hidden hn
  have HX := hidden hx
  have HR := hidden hr
  have HH := hidden h
  have hn6 : n ≤ 4611686018427387904 := by have := startS_ge l; omega
  have HB := hidden hb
  clear hn hx hr h hb
  go_enter Try.func47, Try.ntmps47
  go_wp2
  go_loopw [1, 5] (fun m i wr => ∃ (j : Nat) (x : Int), j ≤ n ∧ i = .int .i64 j ∧ m = .int .i64 x ∧ Hid (x = k + (startS l j : Nat)) ∧ 0 ≤ x ∧ Hid (Below w.heap.size w wr)) (fun _ i _ => n - (intOf i).toNat)
  case atStart => exact ⟨0, k, by omega, rfl, rfl, (by show _ = _; simp [startS]), hk, Below.refl _ _⟩
  case round =>
    obtain ⟨j, x, hj, rfl, rfl, hx, hx0, hbw⟩ := hrel
    by_cases hlt : j < n
    · have hi : (j : Int) < (n : Int) := by omega
      have hjl : j < l.length := by rw [← HN.out]; exact hlt
      obtain ⟨y, hy⟩ : ∃ y, l[j] = y := ⟨_, rfl⟩
      have HY : Hid (l[j]? = some y) := by show _ = _; rw [List.getElem?_eq_getElem hjl, hy]
      have hnx := startS_next HY.out
      have hle := startS_mono l (j + 1)
      obtain ⟨nb, hnb⟩ : ∃ n, y.s.bytes.length = n := ⟨_, rfl⟩
      obtain ⟨nf, hnf⟩ : ∃ n, y.s.fixs.length = n := ⟨_, rfl⟩
      have HXN : Hid (x + 1 + 1 + 1 + (nb : Int) + 1 + 4 * (nf : Int) = k + (startS l (j + 1) : Nat)) := by show _ = _; rw [hnx, hx.out]; unfold costS; rw [hnb, hnf]; omega
      have hbig : x + 1 + 1 + 1 + (nb : Int) + 1 + 4 * (nf : Int) ≤ 4611686018427387904 := by rw [HXN.out]; have := HB.out; omega
      obtain ⟨T, hT⟩ : ∃ T, markOf x = T := ⟨_, rfl⟩
      have HP : Hid (∀ W, Below wr.heap.size wr W → (W.cell? ⟨g, j * 6, none⟩ = some (.string T) ∧ W.cell? ⟨g, j * 6 + 1, none⟩ = some (.int .i64 (x + 1)) ∧ W.cell? ⟨g, j * 6 + 2, none⟩ = some (.int .i64 (x + 1 + 1)) ∧ W.cell? ⟨g, j * 6 + 3, none⟩ = some (.slice y.a1 nb y.c1) ∧ W.cell? ⟨g, j * 6 + 4, none⟩ = some (.int .i64 (x + 1 + 1 + 1 + (nb : Int))) ∧ W.cell? ⟨g, j * 6 + 5, none⟩ = some (.slice y.a2 nf y.c2)) ∧ ByR W lo y (some (x + 1 + 1 + 1)) ∧ FxM W lo y (some (x + 1 + 1 + 1 + (nb : Int) + 1))) := fun W hW => by
        have hbW : Below w.heap.size w W := hbw.out.trans (hW.mono hbw.out.size)
        have hh := HH.out.below hbW HH.out.lt
        obtain ⟨m0, m1, m2, m4⟩ := HX.out.marks j y hjl HY.out
        obtain ⟨m3, m5⟩ := HX.out.kept j y HY.out
        obtain ⟨r1, r2⟩ := (HR.out.below hbW) j y HY.out
        unfold mk1 at r1
        unfold mk2 at r2
        rw [← hx.out] at m0 m1 m2 m4 r1 r2
        rw [hT] at m0
        rw [hnb] at m3 m4 r2
        rw [hnf] at m5
        exact ⟨⟨(hh.cell _).trans m0, (hh.cell _).trans m1, (hh.cell _).trans m2, (hh.cell _).trans m3, (hh.cell _).trans m4, (hh.cell _).trans m5⟩, r1, r2⟩
      have HM : Hid (∀ W : World, Calls Try.prog 69 #[.int .i64 x] W fun e w' => e = .returned (.string T) ∧ Below W.heap.size W w') := fun W => by
        have := markText_of W x hx0 (by omega)
        rwa [hT] at this
      have hss : (T.toList == T.toList) = true := beq_self_eq_true _
      have HBW := hbw
      have HNB := hidden hnb
      have HNF := hidden hnf
      clear hT hx hbw hnx hle hy hjl hnb hnf
      go_upto_region 4 with fail
      refine wp_region_seq (by kernel_rfl) (fun W => Below wr.heap.size wr W) (by kernel_rfl) (Below.refl _ _).drew ?_
      refine SeqV.step (.slice (some ⟨g, 0, none⟩) n cap) (by rfl) (fun W hW => ?_) ?_
      · unfold Oper.wp
        simp [go_sem]
        try exact hW
      simp only [Act.put, List.setIfInBounds_toArray, List.set_cons_succ, List.set_cons_zero]
      refine SeqV.step (.int .i64 j) (by rfl) (fun W hW => ?_) ?_
      · unfold Oper.wp
        simp [go_sem]
        try exact hW
      simp only [Act.put, List.setIfInBounds_toArray, List.set_cons_succ, List.set_cons_zero]
      refine SeqV.step (.pointer (some ⟨g, j * 6, none⟩)) (by rfl) (fun W hW => ?_) ?_
      · have q := hi; unfold Oper.wp
        simp [go_sem, *]
        try exact hW
      simp only [Act.put, List.setIfInBounds_toArray, List.set_cons_succ, List.set_cons_zero]
      refine SeqV.step (.pointer (some ⟨g, j * 6, none⟩)) (by rfl) (fun W hW => ?_) ?_
      · unfold Oper.wp
        simp [go_sem]
        try exact hW
      simp only [Act.put, List.setIfInBounds_toArray, List.set_cons_succ, List.set_cons_zero]
      refine SeqV.step (.string T) (by rfl) (fun W hW => ?_) ?_
      · have q := (HP.out W hW).1.1; unfold Oper.wp
        simp [go_sem, *]
        try exact hW
      simp only [Act.put, List.setIfInBounds_toArray, List.set_cons_succ, List.set_cons_zero]
      refine SeqV.step (.int .i64 x) (by rfl) (fun W hW => ?_) ?_
      · unfold Oper.wp
        simp [go_sem]
        try exact hW
      simp only [Act.put, List.setIfInBounds_toArray, List.set_cons_succ, List.set_cons_zero]
      refine SeqV.step (.string T) (by rfl) (fun W hW => ?_) ?_
      · unfold Oper.wp
        simp [go_sem]
        refine (HM.out W).mono ?_; rintro e w' ⟨rfl, hb⟩; exact ⟨rfl, hW.trans (hb.mono hW.size)⟩
      simp only [Act.put, List.setIfInBounds_toArray, List.set_cons_succ, List.set_cons_zero]
      refine SeqV.step (.bool false) (by rfl) (fun W hW => ?_) ?_
      · have q := hss; unfold Oper.wp
        simp [go_sem, *]
        try exact hW
      simp only [Act.put, List.setIfInBounds_toArray, List.set_cons_succ, List.set_cons_zero]
      intro W hW
      obtain ⟨⟨-, q1, q2, q3, q4, q5⟩, hby, -⟩ := HP.out W hW
      have HBY := hidden (held_bytes W lo y nb HNB.out.symm (x + 1 + 1 + 1) hby (by omega) (by omega))
      clear HM hby
      go_wp2_with fail
      refine HBY.out.mono ?_
      clear HBY q1 q2 q3 q4 q5
      rintro _ w4 ⟨rfl, hb4⟩
      have hW4 : Below wr.heap.size wr w4 := hW.trans (hb4.mono hW.size)
      obtain ⟨⟨-, -, -, -, q4, q5⟩, -, hfx⟩ := HP.out w4 hW4
      obtain ⟨x4, hx4⟩ : ∃ z : Int, x + 1 + 1 + 1 + (nb : Int) = z := ⟨_, rfl⟩
      have hx40 : x + 3 ≤ x4 := by omega
      have hx41 : x4 + 1 + 4 * (nf : Int) ≤ 4611686018427387904 := by omega
      have hx42 : (x4 < 0) = False := by simp; omega
      have HX4 := hidden hx4
      rw [hx4] at q4 hfx ⊢
      have HFY := hidden (held_fixs w4 lo y nf HNF.out.symm (x4 + 1) hfx (by omega) (by omega))
      have HW4 := hidden hW4
      clear hfx hW4 hb4 hx4 HP
      go_wp2_with fail
      refine HFY.out.mono ?_
      clear HFY q4 q5
      rintro _ w5 ⟨rfl, hb5⟩
      obtain ⟨x5, hx5⟩ : ∃ z : Int, x4 + 1 + 4 * (nf : Int) = z := ⟨_, rfl⟩
      have hx50 : 0 ≤ x5 := by omega
      have hx51 : ¬ x5 < 0 := by omega
      have HX5 : Hid (x5 = k + (startS l (j + 1) : Nat)) := by show _ = _; rw [← hx5, ← HX4.out]; exact HXN.out
      have HBN := hidden (HBW.out.trans ((HW4.out.trans (hb5.mono HW4.out.size)).mono HBW.out.size))
      rw [hx5]
      clear hb5 hx5 HW4 HX4 HXN hx40 hx41 hbig
      go_wp2_with fail
      go_roundw
      case rel => exact ⟨j + 1, _, by omega, by go_num, rfl, HX5, hx50, HBN⟩
      case measure => simp [intOf]; omega
    · have hjn : j = l.length := by rw [← HN.out]; omega
      have HE : Hid (x = k + (startS l l.length : Nat)) := by show _ = _; rw [hx.out, hjn]
      have hlt' : ¬ (j : Int) < (n : Int) := by omega
      clear hx hjn
      go_wp2
      go_ret
      exact ⟨ret_int HE.out, hbw.out⟩
/-- An object that is a result: its rows lie in blocks of their own from lo on. -/
structure ResO (W : World) (lo : Nat) (a1 a2 : Option Addr) (ss : List Sp) (nm : Nat) : Prop where
  low : lo ≤ W.heap.size
  sec : 0 < ss.length → ∃ g c, a1 = some ⟨g, 0, none⟩ ∧ lo ≤ g ∧ Has W g 64 c ∧ ∀ k, SecR c ss k 0
  rows : RowsX W lo ss (fun _ _ => none) (fun _ _ => none)
  apart : Apart2 ss
  sym : 0 < nm → ∃ g c, a2 = some ⟨g, 0, none⟩ ∧ lo ≤ g ∧ Has W g 59 c ∧ nm * 4 ≤ c.size
/-- It bears the marks from a number on. -/
structure MarkedO (W : World) (lo : Nat) (a1 a2 : Option Addr) (ss : List Sp) (nm : Nat) (k : Int) : Prop where
  sec : 0 < ss.length → ∃ g c, a1 = some ⟨g, 0, none⟩ ∧ Has W g 64 c ∧ SecR c ss k ss.length
  rows : RowsX W lo ss (mk1 ss k) (mk2 ss k)
  sym : 0 < nm → ∃ g c, a2 = some ⟨g, 0, none⟩ ∧ Has W g 59 c ∧ nm * 4 ≤ c.size ∧ FilledY (k + (startS ss ss.length : Nat)) c nm
theorem MarkedO.below {W W' : World} {lo : Nat} {a1 a2 : Option Addr} {ss : List Sp} {nm : Nat} {k : Int} (h : MarkedO W lo a1 a2 ss nm k) (hb : Below W.heap.size W W') : MarkedO W' lo a1 a2 ss nm k :=
  ⟨fun hn => by obtain ⟨g, c, h1, h2, h3⟩ := h.sec hn; exact ⟨g, c, h1, h2.below hb h2.lt, h3⟩, h.rows.below hb, fun hn => by obtain ⟨g, c, h1, h2, h3⟩ := h.sym hn; exact ⟨g, c, h1, h2.below hb h2.lt, h3⟩⟩
theorem mark_secs (w : World) (lo n cap : Nat) (a1 a2 : Option Addr) (ss : List Sp) (nm : Nat) (k : Int) (hn : n = ss.length) (h : ResO w lo a1 a2 ss nm) (hk : 0 ≤ k) (hb : k + (startS ss ss.length : Nat) ≤ 4611686018427387904) :
    Calls Try.prog 45 #[.slice a1 n cap, .int .i64 k] w fun e w' => e = .returned (.int .i64 (k + (startS ss ss.length : Nat))) ∧ (0 < ss.length → ∃ g c, a1 = some ⟨g, 0, none⟩ ∧ Has w' g 64 c ∧ SecR c ss k ss.length) ∧ RowsX w' lo ss (mk1 ss k) (mk2 ss k) ∧ Keep3 lo w w' := by
  rcases Nat.eq_zero_or_pos ss.length with h0 | hpos
  · obtain rfl : ss = [] := List.eq_nil_of_length_eq_zero h0
    subst hn
    exact (markSectionS_nil w a1 cap k).mono fun e w' ⟨he, hw⟩ => ⟨by rw [he]; simp [startS], fun h => absurd h (by simp), fun i y hi => by simp at hi, by rw [hw]; exact Keep3.refl _ _⟩
  · obtain ⟨g, c, rfl, h2, h3, h4⟩ := h.sec hpos
    exact (markSectionS_wide w lo g n cap ss c k hn h3 (h4 k) h2 h.rows h.apart hk hb).mono fun e w' ⟨he, ⟨c', g1, g2⟩, g3, g4⟩ => ⟨he, fun _ => ⟨g, c', rfl, g1, g2⟩, g3, g4⟩
theorem mark_syms (w : World) (lo n cap : Nat) (a2 : Option Addr) (k : Int) (hlo : lo ≤ w.heap.size) (h : 0 < n → ∃ g c, a2 = some ⟨g, 0, none⟩ ∧ lo ≤ g ∧ Has w g 59 c ∧ n * 4 ≤ c.size) (hk : 0 ≤ k) (hb : k + 4 * n ≤ 4611686018427387904) :
    Calls Try.prog 46 #[.slice a2 n cap, .int .i64 k] w fun e w' => e = .returned (.int .i64 (k + 4 * n)) ∧ (0 < n → ∃ g c, a2 = some ⟨g, 0, none⟩ ∧ Has w' g 59 c ∧ n * 4 ≤ c.size ∧ FilledY k c n) ∧ Below lo w w' ∧ ∀ b T cs, T ≠ 59 → Has w b T cs → Has w' b T cs := by
  rcases Nat.eq_zero_or_pos n with rfl | hpos
  · exact (markSymbolS_nil w a2 cap k).mono fun e w' ⟨he, hw⟩ => ⟨by rw [he]; simp, fun h => by omega, by rw [hw]; exact Below.refl _ _, by rw [hw]; exact fun _ _ _ _ h => h⟩
  · obtain ⟨g, c, rfl, h2, h3, h4⟩ := h hpos
    exact (markSymbolS_wide w g n cap c k h3 h4 hk hb).mono fun e w' ⟨he, ⟨c', g1, g2, g3⟩, g4⟩ => ⟨he, fun _ => ⟨g, c', rfl, g1, by rw [g2]; exact h4, g3⟩, (Below.refl _ _).grown g4 hlo (fun q hq => by injection hq with hq; omega), fun b T cs hT hh => hh.grown g4 (fun e => by injection e with e; exact hh.differ h3 hT e)⟩
theorem RowsX.has {W W' : World} {lo : Nat} {l : List Sp} {f1 f2 : Nat → Sp → Option Int} (h : RowsX W lo l f1 f2) (hk : ∀ b T cs, T ≠ 59 → Has W b T cs → Has W' b T cs) : RowsX W' lo l f1 f2 := fun i y hi =>
  ⟨fun hn => by obtain ⟨q, cur, h1, h2, h3, h4⟩ := (h i y hi).1 hn; exact ⟨q, cur, h1, h2, hk _ _ _ (by decide) h3, h4⟩, fun hn => by obtain ⟨q, cur, h1, h2, h3, h4⟩ := (h i y hi).2 hn; exact ⟨q, cur, h1, h2, hk _ _ _ (by decide) h3, h4⟩⟩
set_option maxRecDepth 100000 in
set_option maxHeartbeats 1000000 in
theorem markObject_wide (w : World) (lo n m d1 d2 : Nat) (a1 a2 : Option Addr) (ss : List Sp) (k : Int) (hn : n = ss.length) (h : ResO w lo a1 a2 ss m) (hk : 0 ≤ k) (hb : k + (startS ss ss.length : Nat) + 4 * (m : Int) ≤ 4611686018427387904) :
    Calls Try.prog 16 #[.agg #[.slice a1 n d1, .slice a2 m d2], .int .i64 k] w fun e w' => e = .returned (.int .i64 (k + (startS ss ss.length : Nat) + 4 * (m : Int))) ∧ MarkedO w' lo a1 a2 ss m k ∧ Below lo w w' ∧ ∀ b T cs, T ≠ 5 → T ≠ 71 → T ≠ 64 → T ≠ 59 → Has w b T cs → Has w' b T cs := by
  obtain ⟨X, hX⟩ : ∃ X : World, w.alloc (.cells #[.slice a1 n d1, .slice a2 m d2] 26) = X := ⟨_, rfl⟩
  have hb0 : Below w.heap.size w X := by rw [← hX]; exact (Below.refl _ _).alloc (Nat.le_refl _) _
  have hx : Has X w.heap.size 26 #[.slice a1 n d1, .slice a2 m d2] := by rw [← hX]; exact Has.new _ _ _
  have c0 : X.cell? ⟨w.heap.size, 0, none⟩ = some (.slice a1 n d1) := hx.cell 0
  have hr : ResO X lo a1 a2 ss m := ⟨Nat.le_trans h.low hb0.size, fun hn => by obtain ⟨g, c, g1, g2, g3, g4⟩ := h.sec hn; exact ⟨g, c, g1, g2, g3.below hb0 g3.lt, g4⟩, h.rows.below hb0, h.apart, fun hn => by obtain ⟨g, c, g1, g2, g3, g4⟩ := h.sym hn; exact ⟨g, c, g1, g2, g3.below hb0 g3.lt, g4⟩⟩
  have HMS := hidden (mark_secs X lo n d1 a1 a2 ss m k hn hr hk (by omega))
  obtain ⟨S, hS⟩ : ∃ S : Int, k + (startS ss ss.length : Nat) = S := ⟨_, rfl⟩
  rw [hS] at HMS hb ⊢
  have hS0 : 0 ≤ S := by omega
  have HX := hidden hX
  have HHX := hidden hx
  have HS := hidden hS
  have HR := hidden hr
  have HB0 := hidden (hb0.mono h.low)
  have HB00 := hidden hb0
  clear h hr hX hx hb0 hS hn
  go_enter Try.func16, Try.ntmps16
  go_wp2_with fail
  rw [HX.out]
  refine HMS.out.mono ?_
  clear HMS c0
  rintro _ w2 ⟨rfl, hs2, hr2, hk2⟩
  have hx2 : Has w2 w.heap.size 26 #[.slice a1 n d1, .slice a2 m d2] := hk2.2 _ _ _ (by decide) (by decide) (by decide) HHX.out
  have c1 : w2.cell? ⟨w.heap.size, 1, none⟩ = some (.slice a2 m d2) := hx2.cell 1
  have hlo2 : lo ≤ w2.heap.size := Nat.le_trans HR.out.low hk2.1.size
  have HMY := hidden (mark_syms w2 lo m d2 a2 S hlo2 (fun hn => by obtain ⟨g, c, g1, g2, g3, g4⟩ := HR.out.sym hn; exact ⟨g, c, g1, g2, hk2.2 _ _ _ (by decide) (by decide) (by decide) g3, g4⟩) hS0 hb)
  have HS2 := hidden hs2
  have HR2 := hidden hr2
  have HK2 := hidden (HB0.out.trans hk2.1)
  have HT2 : Hid (∀ b T cs, T ≠ 5 → T ≠ 71 → T ≠ 64 → T ≠ 59 → Has w b T cs → Has w2 b T cs) := fun b T cs t1 t2 t3 _ hh => hk2.2 b T cs t1 t2 t3 (hh.below HB00.out hh.lt)
  clear hs2 hr2 hk2 hx2 hlo2 HX HHX HR HB0 HB00
  go_wp2_with fail
  refine HMY.out.mono ?_
  clear HMY c1
  rintro _ w3 ⟨rfl, hs3, hb3, hk3⟩
  have HF : Hid (MarkedO w3 lo a1 a2 ss m k ∧ Below lo w w3 ∧ ∀ b T cs, T ≠ 5 → T ≠ 71 → T ≠ 64 → T ≠ 59 → Has w b T cs → Has w3 b T cs) := ⟨⟨fun hn => by obtain ⟨g, c, g1, g2, g3⟩ := HS2.out hn; exact ⟨g, c, g1, hk3 _ _ _ (by decide) g2, g3⟩, HR2.out.has hk3, by rw [HS.out]; exact hs3⟩, HK2.out.trans hb3, fun b T cs t1 t2 t3 t4 hh => hk3 b T cs t4 (HT2.out b T cs t1 t2 t3 t4 hh)⟩
  clear hs3 hb3 hk3 HS2 HR2 HK2 HT2
  go_wp2_with fail
  go_ret
  exact ⟨rfl, HF.out⟩
set_option maxRecDepth 100000 in
set_option maxHeartbeats 1000000 in
theorem heldObject_wide (w : World) (lo n m d1 d2 : Nat) (a1 a2 : Option Addr) (ss : List Sp) (k : Int) (hn : n = ss.length) (h : MarkedO w lo a1 a2 ss m k) (hk : 0 ≤ k) (hb : k + (startS ss ss.length : Nat) + 4 * (m : Int) ≤ 4611686018427387904) :
    Calls Try.prog 18 #[.agg #[.slice a1 n d1, .slice a2 m d2], .int .i64 k] w fun e w' => e = .returned (.int .i64 (k + (startS ss ss.length : Nat) + 4 * (m : Int))) ∧ Below w.heap.size w w' := by
  obtain ⟨X, hX⟩ : ∃ X : World, w.alloc (.cells #[.slice a1 n d1, .slice a2 m d2] 26) = X := ⟨_, rfl⟩
  have hb0 : Below w.heap.size w X := by rw [← hX]; exact (Below.refl _ _).alloc (Nat.le_refl _) _
  have hx : Has X w.heap.size 26 #[.slice a1 n d1, .slice a2 m d2] := by rw [← hX]; exact Has.new _ _ _
  have c0 : X.cell? ⟨w.heap.size, 0, none⟩ = some (.slice a1 n d1) := hx.cell 0
  have HMS : Hid (Calls Try.prog 47 #[.slice a1 n d1, .int .i64 k] X fun e w' => e = .returned (.int .i64 (k + (startS ss ss.length : Nat))) ∧ Below X.heap.size X w') := by
    have hX' := h.below hb0
    rcases Nat.eq_zero_or_pos ss.length with h0 | hpos
    · obtain rfl : ss = [] := List.eq_nil_of_length_eq_zero h0
      subst hn
      exact (heldSectionS_nil X a1 d1 k).mono fun e w' ⟨he, hw⟩ => ⟨by rw [he]; simp [startS], by rw [hw]; exact Below.refl _ _⟩
    · obtain ⟨g, c, rfl, h2, h3⟩ := hX'.sec hpos
      exact heldSectionS_wide X lo g n d1 ss c k hn h2 h3 hX'.rows hk (by omega)
  obtain ⟨S, hS⟩ : ∃ S : Int, k + (startS ss ss.length : Nat) = S := ⟨_, rfl⟩
  have HMY : Hid (∀ W, Below w.heap.size w W → Calls Try.prog 48 #[.slice a2 m d2, .int .i64 S] W fun e w' => e = .returned (.int .i64 (S + 4 * (m : Int))) ∧ Below W.heap.size W w') := fun W hW => by
    have hM := h.below hW
    rcases Nat.eq_zero_or_pos m with rfl | hpos
    · exact (heldSymbolS_nil W a2 d2 S).mono fun e w' ⟨he, hw⟩ => ⟨by rw [he]; simp, by rw [hw]; exact Below.refl _ _⟩
    · obtain ⟨g, c, rfl, h2, h3, h4⟩ := hM.sym hpos
      rw [hS] at h4
      exact heldSymbolS_wide W g m d2 S h2.lt (fun j hj => by obtain ⟨e0, e1, e2, e3⟩ := h4 j hj; exact ⟨(h2.cell _).trans e0, (h2.cell _).trans e1, (h2.cell _).trans e2, (h2.cell _).trans e3⟩) (by omega) (by rw [← hS]; omega)
  rw [hS] at HMS hb ⊢
  have hS0 : 0 ≤ S := by omega
  have hS1 : ¬ S < 0 := by omega
  have HX := hidden hX
  have HHX := hidden hx
  have HB0 := hidden hb0
  clear h hX hx hb0 hS hn
  go_enter Try.func18, Try.ntmps18
  go_wp2_with fail
  rw [HX.out]
  refine HMS.out.mono ?_
  clear HMS c0
  rintro _ w2 ⟨rfl, hb2⟩
  have c1 : w2.cell? ⟨w.heap.size, 1, none⟩ = some (.slice a2 m d2) := (HHX.out.below hb2 HHX.out.lt).cell 1
  have HB2 := hidden (HB0.out.trans (hb2.mono HB0.out.size))
  have HM2 := hidden (HMY.out w2 HB2.out)
  have hm1 : ¬ S + 4 * (m : Int) < 0 := by omega
  clear hb2 HMY HX HHX HB0
  go_wp2_with fail
  refine HM2.out.mono ?_
  clear HM2 c1
  rintro _ w3 ⟨rfl, hb3⟩
  have HB3 := hidden (HB2.out.trans (hb3.mono HB2.out.size))
  obtain ⟨R, hR⟩ : ∃ R : Int, S + 4 * (m : Int) = R := ⟨_, rfl⟩
  have HR := hidden hR
  rw [hR] at hm1 ⊢
  clear hb3 HB2 hR hb
  go_wp2_with fail
  go_ret
  exact ⟨ret_int HR.out.symm, HB3.out⟩
/-- A result in rows of its own can be marked. -/
theorem ListsApart.apart2 {l : List Sp} (h : l.Pairwise ListsApart) : Apart2 l := fun i j y z q hij hi hj => by
  have hil := (List.getElem?_eq_some_iff.1 hi)
  have hjl := (List.getElem?_eq_some_iff.1 hj)
  rcases Nat.lt_or_ge i j with hlt | hge
  · have := List.pairwise_iff_getElem.1 h i j hil.1 hjl.1 hlt
    rw [hil.2, hjl.2] at this
    refine ⟨fun e => ?_, fun e => ?_⟩
    · rcases this.1 with h' | h'
      · rw [e] at h'; cases h'
      · rw [e] at h'; exact fun e' => h' e'.symm
    · rcases this.2 with h' | h'
      · rw [e] at h'; cases h'
      · rw [e] at h'; exact fun e' => h' e'.symm
  · have := List.pairwise_iff_getElem.1 h j i hjl.1 hil.1 (by omega)
    rw [hil.2, hjl.2] at this
    refine ⟨fun e e' => ?_, fun e e' => ?_⟩
    · rcases this.1 with h' | h'
      · rw [e'] at h'; cases h'
      · rw [e, e'] at h'; exact h' rfl
    · rcases this.2 with h' | h'
      · rw [e'] at h'; cases h'
      · rw [e, e'] at h'; exact h' rfl
theorem own_lies {W : World} {base : Nat} {T : TypeId} {size n c : Nat} {a : Option Addr} {xs : List Value} (h : W.ownsRow base T size (.slice a n c) n xs) (hn : 0 < n) : ∃ q cur, a = some ⟨q, 0, none⟩ ∧ base ≤ q ∧ Has W q T cur ∧ n * size ≤ cur.size ∧ cur.toList.take (n * size) = xs := by
  rcases h.2 with ⟨_, h0⟩ | ⟨g, cap, cur, hv, hb, hh, hc, _, hs, ht⟩
  · omega
  · injection hv with e1 e2 e3
    refine ⟨g, cur, e1, hb, hh, ?_, ht⟩
    rw [hs]
    exact Nat.mul_le_mul_right _ hc
theorem SR.resO {W : World} {lo : Nat} {a1 a2 : Option Addr} {c1 c2 m : Nat} {l : List Sp} {xs : List Value} (h : SR W lo (.slice a1 l.length c1) l) (hm : W.ownsRow lo 59 4 (.slice a2 m c2) m xs) (hlo : lo ≤ W.heap.size) : ResO W lo a1 a2 l m := by
  refine ⟨hlo, fun hn => ?_, fun i y hi => ⟨fun hn => ?_, fun hn => ?_⟩, ListsApart.apart2 h.apart, fun hn => ?_⟩
  · obtain ⟨q, cur, h1, h2, h3, h4, h5⟩ := own_lies h.row hn
    refine ⟨q, cur, h1, h2, h3, fun k => ⟨h4, fun i y hi => ?_, fun i y hi => by omega⟩⟩
    obtain ⟨_, _, _, e3, _, e5⟩ := flatS_at l i y hi
    have hil : i < l.length := (List.getElem?_eq_some_iff.1 hi).1
    have key : ∀ j (u : Value), j < l.length * 6 → (flatS l)[j]? = some u → cur[j]? = some u := fun j u hj hu => by
      rw [← h5, List.getElem?_take, if_pos hj, Array.getElem?_toList] at hu
      exact hu
    exact ⟨key _ _ (by omega) e3, key _ _ (by omega) e5⟩
  · obtain ⟨q, cur, h1, h2, h3, h4, _⟩ := own_lies (h.own1 y (List.mem_of_getElem? hi)) hn
    exact ⟨q, cur, h1, h2, h3, by omega, fun k e => by cases e⟩
  · obtain ⟨q, cur, h1, h2, h3, h4, _⟩ := own_lies (h.own2 y (List.mem_of_getElem? hi)) hn
    exact ⟨q, cur, h1, h2, h3, h4, fun k e => by cases e⟩
  · obtain ⟨q, cur, h1, h2, h3, h4, _⟩ := own_lies hm hn
    exact ⟨q, cur, h1, h2, h3, h4⟩
section
variable {W : World} {lo : Nat} {a1 a2 : Option Addr} {n m c1 c2 : Nat} {ss : List Sp} {ms : List Sm}
theorem OwnR.resO (h : OwnR W lo a1 a2 n m c1 c2 ss ms) : ResO W lo a1 a2 ss m := SR.resO (c1 := c1) (by rw [h.len]; exact h.secs) h.syms h.low
end

end Go.Proofs.Ytjpclpjhigongaa

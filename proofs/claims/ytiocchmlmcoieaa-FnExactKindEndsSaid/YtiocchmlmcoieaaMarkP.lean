/-
  The laws' own marks on lists of texts, with what each text is: marked and held. The laws' own marks over whole objects: which blocks they write, and that every block keeps its form. Contract of the laws' own comparison of lists of texts: equal ones are found equal. Marks over an object, and over a list of names that is its own.
-/
import Derived.Deep.Cut
import Derived.WalkSpells
import Derived.WalkLawsBesides
import Derived.Handy
import Derived.Deep.QuietTactic
import Derived.BigQuiet
import Derived.Deep.OwnRows
import Derived.Test.YtiocchmlmcoieaaMarkS
import Derived.Test.YtiocchmlmcoieaaRegionV
import Derived.Test.YtiocchmlmcoieaaObj
import Derived.Test.YtiocchmlmcoieaaBase
import Derived.Test.YtiocchmlmcoieaaRegion
import Derived.Test.YtiocchmlmcoieaaDrawN
/- The laws' own marks on lists of texts, with what each text is: marked and held. -/
namespace Go.Proofs.Ytiocchmlmcoieaa
open Go.RowKit

/-- The decimal digits of a number, ahead of a text. -/
def digitsOf (x : Nat) (s : ByteArray) : ByteArray := if _ : x = 0 then s else digitsOf (x / 10) (strOfNums [48 + ((x % 10 : Nat) : Int)] ++ s)
termination_by x
decreasing_by omega
/-- The text of a mark. -/
def markOf (k : Int) : ByteArray := if k < 1 then ⟨#[109, 48]⟩ else ⟨#[109]⟩ ++ digitsOf k.toNat ⟨#[]⟩
theorem digitsOf_step {x : Int} (s : ByteArray) (hx : 0 < x) : digitsOf x.toNat s = digitsOf (x / 10).toNat (strOfNums [48 + x % 10] ++ s) := by
  obtain ⟨n, rfl⟩ := Int.eq_ofNat_of_zero_le (show 0 ≤ x by omega)
  rw [Int.toNat_natCast, digitsOf, dif_neg (by omega)]
  have e1 : ((n : Int) / 10).toNat = n / 10 := by omega
  have e2 : ((n % 10 : Nat) : Int) = (n : Int) % 10 := by omega
  rw [e1, e2]
set_option maxHeartbeats 1000000 in
theorem markText_of (w : World) (k : Int) (hk0 : 0 ≤ k) (hk : k ≤ 4611686018427387904) : Calls Try.prog 65 #[.int .i64 k] w fun e w' => e = .returned (.string (markOf k)) ∧ Below w.heap.size w w' := by
  by_cases hz : k < 1
  · have e : markOf k = ⟨#[109, 48]⟩ := if_pos hz
    rw [e]; clear e
    go_enter Try.func65, Try.ntmps65
    go_wp2
    go_ret
    exact ⟨rfl, Below.refl _ _⟩
  have hp : 0 < k := by omega
  have he : markOf k = ⟨#[109]⟩ ++ digitsOf k.toNat ⟨#[]⟩ := if_neg hz
  obtain ⟨T, hT⟩ : ∃ T, markOf k = T := ⟨_, rfl⟩
  rw [hT] at he ⊢
  have HE := hidden he
  clear hT he
  go_enter Try.func65, Try.ntmps65
  go_wp2
  have hcv : ∀ (y : Int) (W : World), (convert 22 9 (.slice (some ⟨W.heap.size, 0, none⟩) 1 1)).run Try.prog (W.alloc (.cells #[.int .u8 y] 5)) = .ok (.string (strOfNums [y])) (W.alloc (.cells #[.int .u8 y] 5)) := fun y W =>
    run_convert_bytes_arg (P := Try.prog) _ 22 5 Try.underlying22 Try.underlying5 W.heap.size 0 1 1 [y] rfl (fun i hi => by
      have : i = 0 := by omega
      subst this
      rw [(Has.new W 5 #[.int .u8 y]).cell]
      rfl) 9 Try.underlying9
  have HCV := hidden hcv
  clear hcv
  go_loopw [0, 3] (fun m v wr => ∃ (x : Int) (s : ByteArray), m = .int .i64 x ∧ v = .string s ∧ 0 ≤ x ∧ (s.size : Int) + x ≤ k ∧ Hid (digitsOf k.toNat ⟨#[]⟩ = digitsOf x.toNat s) ∧ Below w.heap.size w wr) (fun m _ _ => (intOf m).toNat)
  case atStart => exact ⟨k, ⟨#[]⟩, rfl, rfl, hk0, by simp [ByteArray.size], hidden rfl, Below.refl _ _⟩
  case round =>
    obtain ⟨x, s, rfl, rfl, hx0, hsx, hd, hb⟩ := hrel
    by_cases hx : 0 < x
    · have hcv := HCV.out
      have hy : ¬ 9223372036854775807 < (strOfNums [48 + x % 10]).size + s.size := by rw [strOfNums_size]; simp; omega
      have hz : (strOfNums [48 + x % 10]).size = 1 := by rw [strOfNums_size]; rfl
      have hx1 : x ≤ 4611686018427387904 := by omega
      have HZ := hidden hz
      have HD : Hid (digitsOf k.toNat ⟨#[]⟩ = digitsOf (x / 10).toNat (strOfNums [48 + x % 10] ++ s)) := by show _ = _; rw [hd.out, digitsOf_step s hx]
      clear hz hd
      go_wp2
      go_roundw
      case rel => exact ⟨x / 10, strOfNums [48 + x % 10] ++ s, rfl, rfl, by omega, by rw [ByteArray.size_append, HZ.out]; omega, HD, hb.alloc hb.size _⟩
      case measure => simp [intOf]; omega
    · have hx' : ¬ 0 < x := hx
      have hs1 : (s.size : Int) ≤ 4611686018427387904 := by omega
      have HF : Hid (T = ⟨#[109]⟩ ++ s) := by
        show _ = _
        have : x = 0 := by omega
        subst this
        rw [HE.out, hd.out, digitsOf, dif_pos (by rfl)]
      clear hd
      go_wp2
      go_ret
      exact ⟨show Ending.returned (.string (⟨#[109]⟩ ++ s)) = _ by rw [HF.out], hb⟩
/-- A row that begins with so many texts, whatever texts they are. -/
def TextsL (cs : Array Value) (n : Nat) : Prop := n ≤ cs.size ∧ ∀ j, j < n → ∃ s : ByteArray, cs[j]? = some (.string s)
theorem TextsL.put {cs : Array Value} {n : Nat} (h : TextsL cs n) (k : Nat) (s : ByteArray) : TextsL (cs.setIfInBounds k (.string s)) n := by
  refine ⟨by simp [h.1], fun j hj => ?_⟩
  rw [Array.getElem?_setIfInBounds]
  by_cases e : k = j
  · rw [if_pos e, if_pos (by have := h.1; omega)]; exact ⟨s, rfl⟩
  · rw [if_neg e]; exact h.2 j hj
/-- The first so many texts of a row are the marks from a number on. -/
def MarkedTo (cs : Array Value) (k : Int) (n j : Nat) : Prop := TextsL cs n ∧ ∀ i, i < j → cs[i]? = some (.string (markOf (k + i)))
theorem MarkedTo.next {cs : Array Value} {k : Int} {n j : Nat} (h : MarkedTo cs k n j) (hj : j < n) : MarkedTo (cs.setIfInBounds j (.string (markOf (k + j)))) k n (j + 1) := by
  refine ⟨h.1.put j _, fun i hi => ?_⟩
  rw [Array.getElem?_setIfInBounds]
  by_cases e : j = i
  · subst e; rw [if_pos rfl, if_pos (by have := h.1.1; omega)]
  · rw [if_neg e]; exact h.2 i (by omega)








































































































































end Go.Proofs.Ytiocchmlmcoieaa
/- The laws' own marks over whole objects: which blocks they write, and that every block keeps its form. -/
namespace Go.Proofs.Ytiocchmlmcoieaa
open Go.RowKit

/-- From one world to another one, blocks lo .. hi - 1 alone are written, and each keeps its form. -/
structure Mk (lo hi : Nat) (w w' : World) : Prop where
  os : w'.os = w.os
  tape : w'.tape = w.tape
  output : w'.output = w.output
  size : w.heap.size ≤ w'.heap.size
  block : ∀ b, b < w.heap.size → (b < lo ∨ hi ≤ b) → w'.heap[b]? = w.heap[b]?
  shape : ∀ b t cs, Has w b t cs → ∃ cs', Has w' b t cs' ∧ cs'.size = cs.size
section
variable {lo hi : Nat} {w w' w'' : World}
theorem Mk.refl (w : World) : Mk lo hi w w := ⟨rfl, rfl, rfl, Nat.le_refl _, fun _ _ _ => rfl, fun _ _ cs h => ⟨cs, h, rfl⟩⟩
theorem Mk.trans (h : Mk lo hi w w') (h' : Mk lo hi w' w'') : Mk lo hi w w'' :=
  ⟨h'.os.trans h.os, h'.tape.trans h.tape, h'.output.trans h.output, Nat.le_trans h.size h'.size, fun b hb ho => (h'.block b (Nat.lt_of_lt_of_le hb h.size) ho).trans (h.block b hb ho), fun b t cs hh => by
    obtain ⟨c1, h1, e1⟩ := h.shape b t cs hh
    obtain ⟨c2, h2, e2⟩ := h'.shape b t c1 h1
    exact ⟨c2, h2, e2.trans e1⟩⟩
theorem Mk.of_below (h : Below w.heap.size w w') : Mk lo hi w w' :=
  ⟨h.os, h.tape, h.output, h.size, fun b hb _ => h.block b hb, fun _ _ cs hh => ⟨cs, hh.below h hh.lt, rfl⟩⟩
theorem Mk.of_grown {g : Nat} {t : TypeId} {cs c : Array Value} (h : w.grownBy w' (some g)) (hl : lo ≤ g) (hh : g < hi) (h0 : Has w g t cs) (h1 : Has w' g t c) (he : c.size = cs.size) : Mk lo hi w w' :=
  ⟨h.os, h.tape, h.output, h.size, fun b hb ho => h.block b hb (fun e => by injection e with e; omega), fun b t' cs' hb => by
    by_cases e : b = g
    · subst e
      unfold Has at hb h0
      rw [h0] at hb
      injection hb with hb
      injection hb with e1 e2
      subst e1; subst e2
      exact ⟨c, h1, he⟩
    · exact ⟨cs', hb.grown h (fun e' => by injection e' with e'; exact e e'), rfl⟩⟩
theorem Mk.cell (h : Mk lo hi w w') {p : Addr} (hb : p.block < w.heap.size) (ho : p.block < lo ∨ hi ≤ p.block) : w'.cell? p = w.cell? p := World.cell?_of_block (h.block p.block hb ho)
end
set_option maxHeartbeats 1000000 in
theorem markByteS_form (w : World) (g len cap : Nat) (cs : Array Value) (k : Int) (h : Has w g 5 cs) (hs : len ≤ cs.size) (hk : 0 ≤ k) (hb : k + len ≤ 4611686018427387904) :
    Calls Try.prog 66 #[.slice (some ⟨g, 0, none⟩) len cap, .int .i64 k] w fun e w' => e = .returned (.int .i64 (k + len)) ∧ (∃ c, Has w' g 5 c ∧ c.size = cs.size) ∧ w.grownBy w' (some g) := by
  go_enter Try.func66, Try.ntmps66
  go_wp2
  go_loopw [1, 5] (fun m i wr => ∃ (j : Nat) (c : Array Value) (x : Int), j ≤ len ∧ i = .int .i64 j ∧ m = .int .i64 x ∧ Hid (x = k + j) ∧ 0 ≤ x ∧ x ≤ 4611686018427387904 ∧ Hid (c.size = cs.size) ∧ Has wr g 5 c ∧ w.grownBy wr (some g))
    (fun _ i _ => len - (intOf i).toNat)
  case atStart => exact ⟨0, cs, k, by omega, rfl, rfl, hidden (by simp), hk, by omega, hidden rfl, h, World.grownBy.refl w _⟩
  case round =>
    obtain ⟨j, c, x, hj, rfl, rfl, hx, hx0, hx1, hf, hh, hg⟩ := hrel
    by_cases hlt : j < len
    · have HX : Hid (x + 1 = k + ((j + 1 : Nat) : Int)) := by have := hx.out; show _ = _; omega
      have hx2 : x + 1 ≤ 4611686018427387904 := by have := hx.out; omega
      have hi : (j : Int) < (len : Int) := by omega
      have hcs : j < c.size := by rw [hf.out]; omega
      obtain ⟨v, hv⟩ : ∃ v, c[j]? = some v := ⟨_, Array.getElem?_eq_getElem hcs⟩
      have eo := (hh.cell j).trans hv
      have ef := hh.free j
      have HH := hidden hh
      have HG := hidden hg
      have HFS := hf
      clear hf hh hg hx hcs hv h
      go_wp2
      have hput := HH.out.put j (.int .u8 (IntKind.u8.wrap x))
      have hgp := only_trans HG.out (only_put' (g := g) j (.int .u8 (IntKind.u8.wrap x)))
      have hfn : Hid ((c.setIfInBounds j (.int .u8 (IntKind.u8.wrap x))).size = cs.size) := by show _ = _; rw [Array.size_setIfInBounds, HFS.out]
      go_roundw
      case rel => exact ⟨j + 1, _, _, by omega, by go_num, rfl, HX, by omega, by omega, hfn, hput, hgp⟩
      case measure => simp [intOf]; omega
    · have hxe : x = k + len := by have := hx.out; omega
      have HE := hidden hxe
      have HFS := hf
      have hlt' : ¬ (j : Int) < (len : Int) := by omega
      clear hf hx hxe
      go_wp2
      go_ret
      exact ⟨ret_int HE.out, ⟨c, hh, HFS.out⟩, hg⟩

set_option maxHeartbeats 2000000 in
theorem markFixupS_form (w : World) (g len cap : Nat) (cs : Array Value) (k : Int) (h : Has w g 119 cs) (hs : cs.size = len * 4) (hk : 0 ≤ k) (hb : k + 4 * len ≤ 4611686018427387904) :
    Calls Try.prog 67 #[.slice (some ⟨g, 0, none⟩) len cap, .int .i64 k] w fun e w' => e = .returned (.int .i64 (k + 4 * len)) ∧ (∃ c, Has w' g 119 c ∧ c.size = cs.size) ∧ w.grownBy w' (some g) := by
  go_enter Try.func67, Try.ntmps67
  go_wp2
  go_loopw [1, 5] (fun m i wr => ∃ (j : Nat) (c : Array Value) (x : Int), j ≤ len ∧ i = .int .i64 j ∧ m = .int .i64 x ∧ Hid (x = k + 4 * j) ∧ 0 ≤ x ∧ x ≤ 4611686018427387904 ∧ Hid (c.size = cs.size) ∧ Has wr g 119 c ∧ w.grownBy wr (some g))
    (fun _ i _ => len - (intOf i).toNat)
  case atStart => exact ⟨0, cs, k, by omega, rfl, rfl, hidden (by simp), hk, by omega, hidden rfl, h, World.grownBy.refl w _⟩
  case round =>
    obtain ⟨j, c, x, hj, rfl, rfl, hx, hx0, hx1, hf, hh, hg⟩ := hrel
    by_cases hlt : j < len
    · have HX : Hid (x + 1 + 1 + 1 + 1 = k + 4 * ((j + 1 : Nat) : Int)) := by have := hx.out; show _ = _; omega
      have hx2 : x + 4 ≤ 4611686018427387904 := by have := hx.out; omega
      have hi : (j : Int) < (len : Int) := by omega
      have hcs : j * 4 + 3 < c.size := by rw [hf.out]; omega
      obtain ⟨v0, hv0⟩ : ∃ v, c[j * 4]? = some v := ⟨_, Array.getElem?_eq_getElem (by omega)⟩
      obtain ⟨v1, hv1⟩ : ∃ v, c[j * 4 + 1]? = some v := ⟨_, Array.getElem?_eq_getElem (by omega)⟩
      obtain ⟨v2, hv2⟩ : ∃ v, c[j * 4 + 2]? = some v := ⟨_, Array.getElem?_eq_getElem (by omega)⟩
      obtain ⟨v3, hv3⟩ : ∃ v, c[j * 4 + 3]? = some v := ⟨_, Array.getElem?_eq_getElem (by omega)⟩
      have e0 := (hh.cell (j * 4)).trans hv0
      have e1 := (hh.cell (j * 4 + 1)).trans hv1
      have e2 := (hh.cell (j * 4 + 2)).trans hv2
      have e3 := (hh.cell (j * 4 + 3)).trans hv3
      have f0 := hh.free (j * 4)
      have f1 := hh.free (j * 4 + 1)
      have f2 := hh.free (j * 4 + 2)
      have f3 := hh.free (j * 4 + 3)
      have HH := hidden hh
      have HG := hidden hg
      have HFS := hf
      clear hf hh hg hx hcs hv0 hv1 hv2 hv3 h
      go_wp2
      have hput := (((HH.out.put (j * 4) (.int .i64 x)).put (j * 4 + 1) (.int .i64 (x + 1))).put (j * 4 + 2) (.int .i64 (x + 1 + 1))).put (j * 4 + 3) (.int .i64 (x + 1 + 1 + 1))
      have hgp := only_trans (only_trans (only_trans (only_trans HG.out (only_put' (g := g) (j * 4) (.int .i64 x))) (only_put' (g := g) (j * 4 + 1) (.int .i64 (x + 1)))) (only_put' (g := g) (j * 4 + 2) (.int .i64 (x + 1 + 1)))) (only_put' (g := g) (j * 4 + 3) (.int .i64 (x + 1 + 1 + 1)))
      have hfn : Hid (((((c.setIfInBounds (j * 4) (.int .i64 x)).setIfInBounds (j * 4 + 1) (.int .i64 (x + 1))).setIfInBounds (j * 4 + 2) (.int .i64 (x + 1 + 1))).setIfInBounds (j * 4 + 3) (.int .i64 (x + 1 + 1 + 1))).size = cs.size) := by
        show _ = _; simp only [Array.size_setIfInBounds]; exact HFS.out
      go_roundw
      case rel => exact ⟨j + 1, _, _, by omega, by go_num, rfl, HX, by omega, by omega, hfn, hput, hgp⟩
      case measure => simp [intOf]; omega
    · have hxe : x = k + 4 * len := by have := hx.out; omega
      have HE := hidden hxe
      have HFS := hf
      have hlt' : ¬ (j : Int) < (len : Int) := by omega
      clear hf hx hxe
      go_wp2
      go_ret
      exact ⟨ret_int HE.out, ⟨c, hh, HFS.out.trans (by first | rfl | exact hs)⟩, hg⟩
set_option maxHeartbeats 2000000 in
theorem markSymbolS_form (w : World) (g len cap : Nat) (cs : Array Value) (k : Int) (h : Has w g 82 cs) (hs : cs.size = len * 4) (hk : 0 ≤ k) (hb : k + 4 * len ≤ 4611686018427387904) :
    Calls Try.prog 44 #[.slice (some ⟨g, 0, none⟩) len cap, .int .i64 k] w fun e w' => e = .returned (.int .i64 (k + 4 * len)) ∧ (∃ c, Has w' g 82 c ∧ c.size = cs.size) ∧ w.grownBy w' (some g) := by
  go_enter Try.func44, Try.ntmps44
  go_wp2
  go_loopw [1, 5] (fun m i wr => ∃ (j : Nat) (c : Array Value) (x : Int), j ≤ len ∧ i = .int .i64 j ∧ m = .int .i64 x ∧ Hid (x = k + 4 * j) ∧ 0 ≤ x ∧ x ≤ 4611686018427387904 ∧ Hid (c.size = cs.size) ∧ Has wr g 82 c ∧ w.grownBy wr (some g))
    (fun _ i _ => len - (intOf i).toNat)
  case atStart => exact ⟨0, cs, k, by omega, rfl, rfl, hidden (by simp), hk, by omega, hidden rfl, h, World.grownBy.refl w _⟩
  case round =>
    obtain ⟨j, c, x, hj, rfl, rfl, hx, hx0, hx1, hf, hh, hg⟩ := hrel
    by_cases hlt : j < len
    · have HX : Hid (x + 1 + 1 + 1 + 1 = k + 4 * ((j + 1 : Nat) : Int)) := by have := hx.out; show _ = _; omega
      have hx2 : x + 4 ≤ 4611686018427387904 := by have := hx.out; omega
      have hi : (j : Int) < (len : Int) := by omega
      have HH0 := hidden hh
      have HG0 := hidden hg
      have HFS := hf
      clear hf hh hg hx h
      go_wp2_with fail
      refine (markText_of _ x hx0 hx1).mono ?_
      rintro _ w2 ⟨rfl, hb2⟩
      obtain ⟨T, hT⟩ : ∃ T, markOf x = T := ⟨_, rfl⟩
      rw [hT]
      have hh : Has w2 g 82 c := HH0.out.below hb2 HH0.out.lt
      have hg : w.grownBy w2 (some g) := only_trans HG0.out ⟨hb2.os, hb2.tape, hb2.output, hb2.size, fun i hi _ => hb2.block i hi⟩
      have hcs : j * 4 + 3 < c.size := by rw [HFS.out]; omega
      obtain ⟨v0, hv0⟩ : ∃ v, c[j * 4]? = some v := ⟨_, Array.getElem?_eq_getElem (by omega)⟩
      obtain ⟨v1, hv1⟩ : ∃ v, c[j * 4 + 1]? = some v := ⟨_, Array.getElem?_eq_getElem (by omega)⟩
      obtain ⟨v2, hv2⟩ : ∃ v, c[j * 4 + 2]? = some v := ⟨_, Array.getElem?_eq_getElem (by omega)⟩
      obtain ⟨v3, hv3⟩ : ∃ v, c[j * 4 + 3]? = some v := ⟨_, Array.getElem?_eq_getElem (by omega)⟩
      have e0 := (hh.cell (j * 4)).trans hv0
      have e1 := (hh.cell (j * 4 + 1)).trans hv1
      have e2 := (hh.cell (j * 4 + 2)).trans hv2
      have e3 := (hh.cell (j * 4 + 3)).trans hv3
      have f0 := hh.free (j * 4)
      have f1 := hh.free (j * 4 + 1)
      have f2 := hh.free (j * 4 + 2)
      have f3 := hh.free (j * 4 + 3)
      have HH := hidden hh
      have HG := hidden hg
      clear hh hg hcs hv0 hv1 hv2 hv3 HH0 HG0 hb2 hT
      go_wp2
      have hput := (((HH.out.put (j * 4) (.string T)).put (j * 4 + 1) (.int .i64 (x + 1))).put (j * 4 + 2) (.int .i64 (x + 1 + 1))).put (j * 4 + 3) (.int .i64 (x + 1 + 1 + 1))
      have hgp := only_trans (only_trans (only_trans (only_trans HG.out (only_put' (g := g) (j * 4) (.string T))) (only_put' (g := g) (j * 4 + 1) (.int .i64 (x + 1)))) (only_put' (g := g) (j * 4 + 2) (.int .i64 (x + 1 + 1)))) (only_put' (g := g) (j * 4 + 3) (.int .i64 (x + 1 + 1 + 1)))
      have hfn : Hid (((((c.setIfInBounds (j * 4) (.string T)).setIfInBounds (j * 4 + 1) (.int .i64 (x + 1))).setIfInBounds (j * 4 + 2) (.int .i64 (x + 1 + 1))).setIfInBounds (j * 4 + 3) (.int .i64 (x + 1 + 1 + 1))).size = cs.size) := by
        show _ = _; simp only [Array.size_setIfInBounds]; exact HFS.out
      go_roundw
      case rel => exact ⟨j + 1, _, _, by omega, by go_num, rfl, HX, by omega, by omega, hfn, hput, hgp⟩
      case measure => simp [intOf]; omega
    · have hxe : x = k + 4 * len := by have := hx.out; omega
      have HE := hidden hxe
      have HFS := hf
      have hlt' : ¬ (j : Int) < (len : Int) := by omega
      clear hf hx hxe
      go_wp2
      go_ret
      exact ⟨ret_int HE.out, ⟨c, hh, HFS.out.trans (by first | rfl | exact hs)⟩, hg⟩

/-- A row of sections whose lists' slots still stand. -/
def KeptX (c : Array Value) (n : Nat) (l : List Sp) : Prop := c.size = n * 6 ∧ ∀ i y, l[i]? = some y → c[i * 6 + 3]? = some (.slice y.a1 y.s.bytes.length y.c1) ∧ c[i * 6 + 5]? = some (.slice y.a2 y.s.fixs.length y.c2)
theorem KeptX.put {c : Array Value} {n : Nat} {l : List Sp} (h : KeptX c n l) (k r : Nat) (hr : r < 6) (h3 : r ≠ 3) (h5 : r ≠ 5) (u : Value) : KeptX (c.setIfInBounds (k * 6 + r) u) n l := by
  refine ⟨by rw [Array.size_setIfInBounds]; exact h.1, fun i y hi => ?_⟩
  obtain ⟨q3, q5⟩ := h.2 i y hi
  exact ⟨by rw [Array.getElem?_setIfInBounds, if_neg (by omega)]; exact q3, by rw [Array.getElem?_setIfInBounds, if_neg (by omega)]; exact q5⟩
theorem FilledX.keptX {c : Array Value} {n : Nat} {l : List Sp} (h : FilledX c n l) : KeptX c n l := ⟨h.1, fun i y hi => ⟨(h.2 i y hi).2.2.2.1, (h.2 i y hi).2.2.2.2.2⟩⟩
set_option maxRecDepth 100000 in
set_option maxHeartbeats 4000000 in
theorem markSectionS_mk (w : World) (lo hi g n cap : Nat) (l : List Sp) (cs : Array Value) (k : Int) (hn : n = l.length) (h : Has w g 42 cs) (hx : KeptX cs n l) (hl : lo ≤ g) (hh : g < hi) (hf : ∀ y ∈ l, Far g w y) (hbd : ∀ y ∈ l, ∀ b, (y.a1 = some ⟨b, 0, none⟩ ∨ y.a2 = some ⟨b, 0, none⟩) → b < hi) (hs : ∀ y ∈ l, y.s.short)
    (hn1 : n ≤ 1048576) (hk : 0 ≤ k) (hb : k ≤ 1152921504606846976) :
    Calls Try.prog 43 #[.slice (some ⟨g, 0, none⟩) n cap, .int .i64 k] w fun e w' => ∃ r : Int, e = .returned (.int .i64 r) ∧ k ≤ r ∧ r ≤ k + 8388608 * n ∧ Mk lo hi w w' := by
  have HN := hidden hn
  have HF := hidden hf
  have HBD := hidden hbd
  have HS := hidden hs
  have HX0 : Hid (KeptX cs n l) := hx
  clear hn hf hbd hs hx
  go_enter Try.func43, Try.ntmps43
  go_wp2
  go_loopw [1, 5] (fun m i wr => ∃ (j : Nat) (c : Array Value) (x : Int), j ≤ n ∧ i = .int .i64 j ∧ m = .int .i64 x ∧ k ≤ x ∧ x ≤ k + 8388608 * j ∧ Hid (KeptX c n l) ∧ Has wr g 42 c ∧ Hid (Mk lo hi w wr))
    (fun _ i _ => n - (intOf i).toNat)
  case atStart => exact ⟨0, cs, k, by omega, rfl, rfl, by omega, by omega, HX0, h, hidden (Mk.refl w)⟩
  case round =>
    obtain ⟨j, c, x, hj, rfl, rfl, hx0, hx1, hkx, hhx, hmk⟩ := hrel
    clear h HX0
    by_cases hlt : j < n
    · have hi' : (j : Int) < (n : Int) := by omega
      have hjl : j < l.length := by rw [← HN.out]; exact hlt
      obtain ⟨y, hy⟩ : ∃ y, l[j] = y := ⟨_, rfl⟩
      have hmem : y ∈ l := by rw [← hy]; exact List.getElem_mem hjl
      have HY : Hid (l[j]? = some y) := by show _ = _; rw [List.getElem?_eq_getElem hjl, hy]
      obtain ⟨b1, b2, ha1, ha2, hg1, hg2, _, _, ⟨cb, hcb, hcbs⟩, ⟨cf, hcf, hcfs⟩⟩ := HF.out y hmem
      have hb1 := HBD.out y hmem b1 (.inl ha1)
      have hb2 := HBD.out y hmem b2 (.inr ha2)
      have hsh := HS.out y hmem
      obtain ⟨nb, hnb⟩ : ∃ n, y.s.bytes.length = n := ⟨_, rfl⟩
      obtain ⟨nf, hnf⟩ : ∃ n, y.s.fixs.length = n := ⟨_, rfl⟩
      have hnb1 : nb ≤ 1048576 := by rw [← hnb]; exact hsh.2.1
      have hnf1 : nf ≤ 1048576 := by rw [← hnf]; exact hsh.2.2
      have HCB := hidden hcb
      have HCF := hidden hcf
      have HCBS : Hid (cb.size = nb) := by show _ = _; rw [hcbs, hnb]
      have HCFS : Hid (cf.size = nf * 4) := by show _ = _; rw [hcfs, hnf]
      have HK : Hid (∀ c', KeptX c' n l → c'[j * 6 + 3]? = some (.slice (some ⟨b1, 0, none⟩) nb y.c1) ∧ c'[j * 6 + 5]? = some (.slice (some ⟨b2, 0, none⟩) nf y.c2)) := fun c' hc' => by
        have := hc'.2 j y HY.out
        rwa [ha1, ha2, hnb, hnf] at this
      have HKX := hkx
      have HHX := hidden hhx
      clear hy hjl hmem ha1 ha2 hcb hcf hcbs hcfs hsh hnb hnf hkx hhx
      go_wp2_with fail
      refine (markText_of _ x (by omega) (by omega)).mono ?_
      rintro _ w2 ⟨rfl, hbl2⟩
      obtain ⟨T, hT⟩ : ∃ T, markOf x = T := ⟨_, rfl⟩
      rw [hT]
      have hh2 : Has w2 g 42 c := HHX.out.below hbl2 HHX.out.lt
      have M2 : Mk lo hi w w2 := hmk.out.trans (Mk.of_below hbl2)
      have hcs : j * 6 + 5 < c.size := by rw [HKX.out.1]; omega
      obtain ⟨v0, hv0⟩ : ∃ v, c[j * 6]? = some v := ⟨_, Array.getElem?_eq_getElem (by omega)⟩
      obtain ⟨v1, hv1⟩ : ∃ v, c[j * 6 + 1]? = some v := ⟨_, Array.getElem?_eq_getElem (by omega)⟩
      obtain ⟨v2, hv2⟩ : ∃ v, c[j * 6 + 2]? = some v := ⟨_, Array.getElem?_eq_getElem (by omega)⟩
      have e0 := (hh2.cell (j * 6)).trans hv0
      have e1 := (hh2.cell (j * 6 + 1)).trans hv1
      have e2 := (hh2.cell (j * 6 + 2)).trans hv2
      have e3 := (hh2.cell (j * 6 + 3)).trans (HK.out c HKX.out).1
      have f0 := hh2.free (j * 6)
      have f1 := hh2.free (j * 6 + 1)
      have f2 := hh2.free (j * 6 + 2)
      have HX2 := HKX.out.put j 0 (by omega) (by omega) (by omega) (.string T)
      rw [Nat.add_zero] at HX2
      have HX3 := hidden ((HX2.put j 1 (by omega) (by omega) (by omega) (.int .i64 (x + 1))).put j 2 (by omega) (by omega) (by omega) (.int .i64 (x + 1 + 1)))
      have hh3 := ((hh2.put (j * 6) (.string T)).put (j * 6 + 1) (.int .i64 (x + 1))).put (j * 6 + 2) (.int .i64 (x + 1 + 1))
      have M3 : Mk lo hi w (((w2.setCell ⟨g, j * 6, none⟩ (.string T)).setCell ⟨g, j * 6 + 1, none⟩ (.int .i64 (x + 1))).setCell ⟨g, j * 6 + 2, none⟩ (.int .i64 (x + 1 + 1))) :=
        M2.trans (Mk.of_grown (g := g) (only_trans (only_trans (only_put' (g := g) (j * 6) (.string T)) (only_put' (g := g) (j * 6 + 1) (.int .i64 (x + 1)))) (only_put' (g := g) (j * 6 + 2) (.int .i64 (x + 1 + 1)))) hl hh hh2 hh3 (by simp only [Array.size_setIfInBounds]))
      obtain ⟨w3, hw3⟩ : ∃ W, ((w2.setCell ⟨g, j * 6, none⟩ (.string T)).setCell ⟨g, j * 6 + 1, none⟩ (.int .i64 (x + 1))).setCell ⟨g, j * 6 + 2, none⟩ (.int .i64 (x + 1 + 1)) = W := ⟨_, rfl⟩
      obtain ⟨c3, hc3⟩ : ∃ C, ((c.setIfInBounds (j * 6) (.string T)).setIfInBounds (j * 6 + 1) (.int .i64 (x + 1))).setIfInBounds (j * 6 + 2) (.int .i64 (x + 1 + 1)) = C := ⟨_, rfl⟩
      rw [hw3, hc3] at hh3
      rw [hw3] at M3
      rw [hc3] at HX3
      have HW3 := hidden hw3
      have HH3 := hidden hh3
      have HM3 := hidden M3
      obtain ⟨cb3, hcb3, hcb3s⟩ := M3.shape b1 _ cb HCB.out
      have HBY := hidden (markByteS_form w3 b1 nb y.c1 cb3 (x + 1 + 1 + 1) hcb3 (by rw [hcb3s, HCBS.out]; omega) (by omega) (by omega))
      have HB3 := hidden hcb3
      have HB3S := hidden hcb3s
      clear HHX hbl2 hh2 M2 hcs hv0 hv1 hv2 HX2 hh3 M3 hw3 hc3 hT HKX hmk hcb3 hcb3s
      go_wp2_with fail
      rw [HW3.out]
      refine HBY.out.mono ?_
      clear HBY
      rintro _ w4 ⟨rfl, ⟨cb4, hcb4, hcb4s⟩, hgr4⟩
      have hne : g ≠ b1 := by omega
      have hh4 : Has w4 g 42 c3 := HH3.out.grown hgr4 (fun e => by injection e with e; omega)
      have M4 : Mk lo hi w w4 := HM3.out.trans (Mk.of_grown hgr4 (by omega) hb1 HB3.out hcb4 hcb4s)
      obtain ⟨v4, hv4⟩ : ∃ v, c3[j * 6 + 4]? = some v := ⟨_, Array.getElem?_eq_getElem (by rw [HX3.out.1]; omega)⟩
      have e4 := (hh4.cell (j * 6 + 4)).trans hv4
      have e5 := (hh4.cell (j * 6 + 5)).trans (HK.out c3 HX3.out).2
      have f4 := hh4.free (j * 6 + 4)
      obtain ⟨x4, hx4⟩ : ∃ z : Int, x + 1 + 1 + 1 + (nb : Int) = z := ⟨_, rfl⟩
      have hx40 : x + 3 ≤ x4 := by omega
      have hx41 : x4 ≤ x + 3 + 1048576 := by omega
      rw [hx4]
      have hh5 := hh4.put (j * 6 + 4) (.int .i64 x4)
      have HX5 := hidden (HX3.out.put j 4 (by omega) (by omega) (by omega) (.int .i64 x4))
      have M5 : Mk lo hi w (w4.setCell ⟨g, j * 6 + 4, none⟩ (.int .i64 x4)) := M4.trans (Mk.of_grown (g := g) (only_put' (g := g) (j * 6 + 4) (.int .i64 x4)) hl hh hh4 hh5 (by simp only [Array.size_setIfInBounds]))
      obtain ⟨w5, hw5⟩ : ∃ W, w4.setCell ⟨g, j * 6 + 4, none⟩ (.int .i64 x4) = W := ⟨_, rfl⟩
      obtain ⟨c5, hc5⟩ : ∃ C, c3.setIfInBounds (j * 6 + 4) (.int .i64 x4) = C := ⟨_, rfl⟩
      rw [hw5, hc5] at hh5
      rw [hw5] at M5
      rw [hc5] at HX5
      have HW5 := hidden hw5
      have HH5 := hidden hh5
      have HM5 := hidden M5
      obtain ⟨cf5, hcf5, hcf5s⟩ := M5.shape b2 _ cf HCF.out
      have HFY := hidden (markFixupS_form w5 b2 nf y.c2 cf5 (x4 + 1) hcf5 (by rw [hcf5s, HCFS.out]) (by omega) (by omega))
      have HB5 := hidden hcf5
      clear HH3 HM3 HB3 HB3S hcb4 hcb4s hgr4 hh4 M4 hv4 hh5 M5 hw5 hc5 hcf5 hcf5s hx4 e0 e1 e2 e3 f0 f1 f2 HW3
      go_wp2_with fail
      rw [HW5.out]
      refine HFY.out.mono ?_
      clear HFY
      rintro _ w6 ⟨rfl, ⟨cf6, hcf6, hcf6s⟩, hgr6⟩
      have hh6 : Has w6 g 42 c5 := HH5.out.grown hgr6 (fun e => by injection e with e; omega)
      have M6 : Hid (Mk lo hi w w6) := HM5.out.trans (Mk.of_grown hgr6 (by omega) hb2 HB5.out hcf6 hcf6s)
      clear HH5 HM5 HB5 hcf6 hcf6s hgr6 e4 e5 f4 HW5
      go_wp2
      go_roundw
      case rel => exact ⟨j + 1, c5, _, by omega, by go_num, rfl, by omega, by omega, HX5, hh6, M6⟩
      case measure => simp [intOf]; omega
    · have hlt' : ¬ (j : Int) < (n : Int) := by omega
      have hjn : j = n := by omega
      clear hkx
      go_wp2
      go_ret
      exact ⟨x, rfl, by omega, by rw [← hjn]; exact hx1, hmk.out⟩

end Go.Proofs.Ytiocchmlmcoieaa
/- Contract of the laws' own comparison of lists of texts: equal ones are found equal. -/
namespace Go.Proofs.Ytiocchmlmcoieaa
open Go.RowKit































end Go.Proofs.Ytiocchmlmcoieaa
/- Marks over an object, and over a list of names that is its own. -/
namespace Go.Proofs.Ytiocchmlmcoieaa
open Go.RowKit

/-- A list of names in a row of its own, not ahead of a block. -/
def RowS (W : World) (lo : Nat) (a : Option Addr) (S : List ByteArray) : Prop :=
  0 < S.length → ∃ (g : Nat) (cs : Array Value), a = some ⟨g, 0, none⟩ ∧ lo ≤ g ∧ Has W g 9 cs ∧ S.length ≤ cs.size ∧ ∀ (i : Nat) (s : ByteArray), S[i]? = some s → cs[i]? = some (Value.string s)
theorem RowS.below {W W' : World} {lo : Nat} {a : Option Addr} {S : List ByteArray} (h : RowS W lo a S) (hb : Below W.heap.size W W') : RowS W' lo a S := fun hn => by
  obtain ⟨g, cs, h1, h2, h3, h4, h5⟩ := h hn
  exact ⟨g, cs, h1, h2, h3.below hb h3.lt, h4, h5⟩
theorem RowS.mk {W W' : World} {lo l h' : Nat} {a : Option Addr} {S : List ByteArray} (h : RowS W lo a S) (hm : Mk l h' W W') (hl : h' ≤ lo) : RowS W' lo a S := fun hn => by
  obtain ⟨g, cs, h1, h2, h3, h4, h5⟩ := h hn
  exact ⟨g, cs, h1, h2, (hm.block g h3.lt (.inr (by omega))).trans h3, h4, h5⟩
theorem RowS.drewN {W : World} {lo : Nat} {a : Option Addr} {S : List ByteArray} (h : RowS W lo a S) (n : Nat) : RowS (W.drewN n) lo a S := h
theorem RowS.vals {W : World} {lo : Nat} {a : Option Addr} {S : List ByteArray} (h : RowS W lo a S) : Vals W W.heap.size a (S.map Value.string) := fun hn => by
  obtain ⟨g, cs, h1, h2, h3, h4, h5⟩ := h (by simpa using hn)
  refine ⟨g, 0, h1, h3.lt, fun i v hv => ?_⟩
  rw [List.getElem?_map] at hv
  rcases hs : S[i]? with _ | s
  · rw [hs] at hv; cases hv
  · rw [hs] at hv
    injection hv with hv
    rw [Nat.zero_add, h3.cell i, h5 i s hs, hv]
/-- A row of marks. -/
def RowM (W : World) (lo : Nat) (a : Option Addr) (n : Nat) : Prop :=
  0 < n → ∃ g, a = some ⟨g, 0, none⟩ ∧ lo ≤ g ∧ g < W.heap.size ∧ ∀ i, i < n → W.cell? ⟨g, i, none⟩ = some (.string (markOf (1 + i)))
theorem RowM.below {W W' : World} {lo : Nat} {a : Option Addr} {n : Nat} (h : RowM W lo a n) (hb : Below W.heap.size W W') : RowM W' lo a n := fun hn => by
  obtain ⟨g, h1, h2, h3, h4⟩ := h hn
  exact ⟨g, h1, h2, Nat.lt_of_lt_of_le h3 hb.size, fun i hi => (hb.cell (by show g < _; exact h3)).trans (h4 i hi)⟩
theorem RowM.drewN {W : World} {lo : Nat} {a : Option Addr} {n : Nat} (h : RowM W lo a n) (q : Nat) : RowM (W.drewN q) lo a n := h





















































end Go.Proofs.Ytiocchmlmcoieaa

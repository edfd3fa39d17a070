/-
  The laws' own marks on lists of texts, with what each text is: marked and held.
-/
import Derived.Test.YtdbedkjnoppkmaaMarkSS
import Derived.Test.YtdbedkjnoppkmaaRegionV
import Derived.Deep.Cut
namespace Go.Proofs.Ytdbedkjnoppkmaa
open Go.RowKit

/-- The decimal digits of a number, ahead of a text. -/
def digitsOf (x : Nat) (s : ByteArray) : ByteArray := if _ : x = 0 then s else digitsOf (x / 10) (strOfNums [48 + ((x % 10 : Nat) : Int)] ++ s)
termination_by x
decreasing_by omega
/-- The text of a mark. -/
def markOf (k : Int) : ByteArray := if k < 1 then ⟨#[109, 48]⟩ else ⟨#[109]⟩ ++ digitsOf k.toNat ⟨#[]⟩
theorem digitsOf_step {x : Int} (s : ByteArray) (hx : 0 < x) : digitsOf x.toNat s = digitsOf (x / 10).toNat (strOfNums [48 + x % 10] ++ s) := by
  obtain ⟨n, rfl⟩ := Int.eq_ofNat_of_zero_le (show 0 ≤ x by omega)
  rw [Int.toNat_natCast, digitsOf, dif_neg (by omega)]
  have e1 : ((n : Int) / 10).toNat = n / 10 := by omega
  have e2 : ((n % 10 : Nat) : Int) = (n : Int) % 10 := by omega
  rw [e1, e2]
set_option maxHeartbeats 1000000 in
theorem markText_of (w : World) (k : Int) (hk0 : 0 ≤ k) (hk : k ≤ 4611686018427387904) : Calls Try.prog 60 #[.int .i64 k] w fun e w' => e = .returned (.string (markOf k)) ∧ Below w.heap.size w w' := by
  by_cases hz : k < 1
  · have e : markOf k = ⟨#[109, 48]⟩ := if_pos hz
    rw [e]; clear e
    go_enter Try.func60, Try.ntmps60
    go_wp2
    go_ret
    exact ⟨rfl, Below.refl _ _⟩
  have hp : 0 < k := by omega
  have he : markOf k = ⟨#[109]⟩ ++ digitsOf k.toNat ⟨#[]⟩ := if_neg hz
  obtain ⟨T, hT⟩ : ∃ T, markOf k = T := ⟨_, rfl⟩
  rw [hT] at he ⊢
  have HE := hidden he
  clear hT he
  go_enter Try.func60, Try.ntmps60
  go_wp2
  have hcv : ∀ (y : Int) (W : World), (convert 22 9 (.slice (some ⟨W.heap.size, 0, none⟩) 1 1)).run Try.prog (W.alloc (.cells #[.int .u8 y] 5)) = .ok (.string (strOfNums [y])) (W.alloc (.cells #[.int .u8 y] 5)) := fun y W =>
    run_convert_bytes_arg (P := Try.prog) _ 22 5 Try.underlying22 Try.underlying5 W.heap.size 0 1 1 [y] rfl (fun i hi => by
      have : i = 0 := by omega
      subst this
      rw [(Has.new W 5 #[.int .u8 y]).cell]
      rfl) 9 Try.underlying9
  have HCV := hidden hcv
  clear hcv
  go_loopw [0, 3] (fun m v wr => ∃ (x : Int) (s : ByteArray), m = .int .i64 x ∧ v = .string s ∧ 0 ≤ x ∧ (s.size : Int) + x ≤ k ∧ Hid (digitsOf k.toNat ⟨#[]⟩ = digitsOf x.toNat s) ∧ Below w.heap.size w wr) (fun m _ _ => (intOf m).toNat)
  case atStart => exact ⟨k, ⟨#[]⟩, rfl, rfl, hk0, by simp [ByteArray.size], hidden rfl, Below.refl _ _⟩
  case round =>
    obtain ⟨x, s, rfl, rfl, hx0, hsx, hd, hb⟩ := hrel
    by_cases hx : 0 < x
    · have hcv := HCV.out
      have hy : ¬ 9223372036854775807 < (strOfNums [48 + x % 10]).size + s.size := by rw [strOfNums_size]; simp; omega
      have hz : (strOfNums [48 + x % 10]).size = 1 := by rw [strOfNums_size]; rfl
      have hx1 : x ≤ 4611686018427387904 := by omega
      have HZ := hidden hz
      have HD : Hid (digitsOf k.toNat ⟨#[]⟩ = digitsOf (x / 10).toNat (strOfNums [48 + x % 10] ++ s)) := by show _ = _; rw [hd.out, digitsOf_step s hx]
      clear hz hd
      go_wp2
      go_roundw
      case rel => exact ⟨x / 10, strOfNums [48 + x % 10] ++ s, rfl, rfl, by omega, by rw [ByteArray.size_append, HZ.out]; omega, HD, hb.alloc hb.size _⟩
      case measure => simp [intOf]; omega
    · have hx' : ¬ 0 < x := hx
      have hs1 : (s.size : Int) ≤ 4611686018427387904 := by omega
      have HF : Hid (T = ⟨#[109]⟩ ++ s) := by
        show _ = _
        have : x = 0 := by omega
        subst this
        rw [HE.out, hd.out, digitsOf, dif_pos (by rfl)]
      clear hd
      go_wp2
      go_ret
      exact ⟨show Ending.returned (.string (⟨#[109]⟩ ++ s)) = _ by rw [HF.out], hb⟩
/-- A row that begins with so many texts, whatever texts they are. -/
def TextsL (cs : Array Value) (n : Nat) : Prop := n ≤ cs.size ∧ ∀ j, j < n → ∃ s : ByteArray, cs[j]? = some (.string s)
theorem TextsL.put {cs : Array Value} {n : Nat} (h : TextsL cs n) (k : Nat) (s : ByteArray) : TextsL (cs.setIfInBounds k (.string s)) n := by
  refine ⟨by simp [h.1], fun j hj => ?_⟩
  rw [Array.getElem?_setIfInBounds]
  by_cases e : k = j
  · rw [if_pos e, if_pos (by have := h.1; omega)]; exact ⟨s, rfl⟩
  · rw [if_neg e]; exact h.2 j hj
/-- The first so many texts of a row are the marks from a number on. -/
def MarkedTo (cs : Array Value) (k : Int) (n j : Nat) : Prop := TextsL cs n ∧ ∀ i, i < j → cs[i]? = some (.string (markOf (k + i)))
theorem MarkedTo.next {cs : Array Value} {k : Int} {n j : Nat} (h : MarkedTo cs k n j) (hj : j < n) : MarkedTo (cs.setIfInBounds j (.string (markOf (k + j)))) k n (j + 1) := by
  refine ⟨h.1.put j _, fun i hi => ?_⟩
  rw [Array.getElem?_setIfInBounds]
  by_cases e : j = i
  · subst e; rw [if_pos rfl, if_pos (by have := h.1.1; omega)]
  · rw [if_neg e]; exact h.2 i (by omega)
set_option maxHeartbeats 1000000 in
theorem markStringS_full (w : World) (g len cap : Nat) (cs : Array Value) (k : Int) (h : Has w g 9 cs) (hs : TextsL cs len) (hk : 0 ≤ k) (hb : k + len ≤ 4611686018427387904) :
    Calls Try.prog 32 #[.slice (some ⟨g, 0, none⟩) len cap, .int .i64 k] w fun e w' => e = .returned (.int .i64 (k + len)) ∧ (∃ c, Has w' g 9 c ∧ c.size = cs.size ∧ MarkedTo c k len len) ∧ w.grownBy w' (some g) := by
  have HS : Hid (MarkedTo cs k len 0) := ⟨hs, fun i hi => by omega⟩
  clear hs
  go_enter Try.func32, Try.ntmps32
  go_wp2
  go_loopw [1, 5] (fun m i wr => ∃ (j : Nat) (c : Array Value) (x : Int), j ≤ len ∧ i = .int .i64 j ∧ m = .int .i64 x ∧ Hid (x = k + j) ∧ 0 ≤ x ∧ x ≤ 4611686018427387904 ∧ Hid (c.size = cs.size ∧ MarkedTo c k len j) ∧ Has wr g 9 c ∧ w.grownBy wr (some g))
    (fun _ i _ => len - (intOf i).toNat)
  case atStart => exact ⟨0, cs, k, by omega, rfl, rfl, hidden (by simp), hk, by omega, hidden ⟨rfl, HS.out⟩, h, World.grownBy.refl w _⟩
  case round =>
    obtain ⟨j, c, x, hj, rfl, rfl, hx, hx0, hx1, hf, hh, hg⟩ := hrel
    clear HS h
    by_cases hlt : j < len
    · have HX : Hid (x + 1 = k + ((j + 1 : Nat) : Int)) := by have := hx.out; show _ = _; omega
      have hx2 : x + 1 ≤ 4611686018427387904 := by have := hx.out; omega
      have hi : (j : Int) < (len : Int) := by omega
      have HF := hf
      have HG := hidden hg
      have HH := hidden hh
      have HXE := hx
      clear hf hg hh hx
      go_wp2_with fail
      refine (markText_of _ x hx0 hx1).mono ?_
      rintro _ w2 ⟨rfl, hb2⟩
      have hlt2 := Has.lt (t := 9) (cs := c) HH.out
      have hh2 : Has w2 g 9 c := Has.below HH.out hb2 hlt2
      have hg2 : w.grownBy w2 (some g) := only_trans HG.out ⟨hb2.os, hb2.tape, hb2.output, hb2.size, fun i hi _ => hb2.block i hi⟩
      obtain ⟨s0, hv⟩ := HF.out.2.1.2 j hlt
      have eo := hh2.cell j
      rw [hv] at eo
      have ef := hh2.free j
      obtain ⟨T, hT⟩ : ∃ T, markOf x = T := ⟨_, rfl⟩
      have hfn : Hid ((c.setIfInBounds j (.string T)).size = cs.size ∧ MarkedTo (c.setIfInBounds j (.string T)) k len (j + 1)) := by
        have := HF.out.2.next hlt
        rw [← HXE.out, hT] at this
        exact ⟨by rw [Array.size_setIfInBounds]; exact HF.out.1, this⟩
      rw [hT]
      have hput := hh2.put j (.string T)
      have hgp := only_trans hg2 (only_put' (g := g) j (.string T))
      clear HF HG HH hb2 hlt2 hh2 hg2 hv hT HXE
      go_wp2
      go_roundw
      case rel => exact ⟨j + 1, _, _, by omega, by go_num, rfl, HX, by omega, by omega, hfn, hput, hgp⟩
      case measure => simp [intOf]; omega
    · have hxe : x = k + len := by have := hx.out; omega
      have HE := hidden hxe
      have hjl : j = len := by omega
      have HF : Hid (c.size = cs.size ∧ MarkedTo c k len len) := by rw [hjl] at hf; exact hf
      have hlt' : ¬ (j : Int) < (len : Int) := by omega
      clear hf hx hxe
      go_wp2
      go_ret
      exact ⟨ret_int HE.out, ⟨c, hh, HF.out.1, HF.out.2⟩, hg⟩
set_option maxHeartbeats 1000000 in
theorem heldStringS_full (w : World) (g len cap : Nat) (k : Int) (hg : g < w.heap.size) (h : ∀ i, i < len → w.cell? ⟨g, i, none⟩ = some (.string (markOf (k + i)))) (hk : 0 ≤ k) (hb : k + len ≤ 4611686018427387904) :
    Calls Try.prog 33 #[.slice (some ⟨g, 0, none⟩) len cap, .int .i64 k] w fun e w' => e = .returned (.int .i64 (k + len)) ∧ Below w.heap.size w w' := by
  have HC := hidden h
  clear h
  go_enter Try.func33, Try.ntmps33
  go_wp2
  go_loopw [1, 5] (fun m i wr => ∃ (j : Nat) (x : Int), j ≤ len ∧ i = .int .i64 j ∧ m = .int .i64 x ∧ Hid (x = k + j) ∧ 0 ≤ x ∧ x ≤ 4611686018427387904 ∧ Below w.heap.size w wr) (fun _ i _ => len - (intOf i).toNat)
  case atStart => exact ⟨0, k, by omega, rfl, rfl, hidden (by simp), hk, by omega, Below.refl _ _⟩
  case round =>
    obtain ⟨j, x, hj, rfl, rfl, hx, hx0, hx1, hbw⟩ := hrel
    by_cases hlt : j < len
    · have HX : Hid (x + 1 = k + ((j + 1 : Nat) : Int)) := by have := hx.out; show _ = _; omega
      have hx2 : x + 1 ≤ 4611686018427387904 := by have := hx.out; omega
      have hi : (j : Int) < (len : Int) := by omega
      obtain ⟨T, hT⟩ : ∃ T, markOf x = T := ⟨_, rfl⟩
      have HP : Hid (∀ W, Below wr.heap.size wr W → W.cell? ⟨g, j, none⟩ = some (.string T)) := fun W hW => by
        rw [hW.cell (by have := hbw.size; show g < _; omega), hbw.cell hg, HC.out j hlt, ← hx.out, hT]
      have HM : Hid (∀ W : World, Calls Try.prog 60 #[.int .i64 x] W fun e w' => e = .returned (.string T) ∧ Below W.heap.size W w') := fun W => by
        have := markText_of W x hx0 hx1
        rwa [hT] at this
      have hss : (T.toList == T.toList) = true := beq_self_eq_true _
      have HBW := hidden hbw
      clear hT hx hbw
      go_upto_region 4 with fail
      refine wp_region_seq (by kernel_rfl) (fun W => Below wr.heap.size wr W) (by kernel_rfl) (Below.refl _ _).drew ?_
      refine SeqV.step (.slice (some ⟨g, 0, none⟩) len cap) (by rfl) (fun W hW => ?_) ?_
      · unfold Oper.wp
        simp [go_sem]
        try exact hW
      simp only [Act.put, List.setIfInBounds_toArray, List.set_cons_succ, List.set_cons_zero]
      refine SeqV.step (.int .i64 j) (by rfl) (fun W hW => ?_) ?_
      · unfold Oper.wp
        simp [go_sem]
        try exact hW
      simp only [Act.put, List.setIfInBounds_toArray, List.set_cons_succ, List.set_cons_zero]
      refine SeqV.step (.pointer (some ⟨g, j, none⟩)) (by rfl) (fun W hW => ?_) ?_
      · have q := hi; unfold Oper.wp
        simp [go_sem, *]
        try exact hW
      simp only [Act.put, List.setIfInBounds_toArray, List.set_cons_succ, List.set_cons_zero]
      refine SeqV.step (.string T) (by rfl) (fun W hW => ?_) ?_
      · have q := HP.out W hW; unfold Oper.wp
        simp [go_sem, *]
        try exact hW
      simp only [Act.put, List.setIfInBounds_toArray, List.set_cons_succ, List.set_cons_zero]
      refine SeqV.step (.int .i64 x) (by rfl) (fun W hW => ?_) ?_
      · unfold Oper.wp
        simp [go_sem]
        try exact hW
      simp only [Act.put, List.setIfInBounds_toArray, List.set_cons_succ, List.set_cons_zero]
      refine SeqV.step (.string T) (by rfl) (fun W hW => ?_) ?_
      · unfold Oper.wp
        simp [go_sem]
        refine (HM.out W).mono ?_; rintro e w' ⟨rfl, hb⟩; exact ⟨rfl, hW.trans (hb.mono hW.size)⟩
      simp only [Act.put, List.setIfInBounds_toArray, List.set_cons_succ, List.set_cons_zero]
      refine SeqV.step (.bool false) (by rfl) (fun W hW => ?_) ?_
      · have q := hss; unfold Oper.wp
        simp [go_sem, *]
        try exact hW
      simp only [Act.put, List.setIfInBounds_toArray, List.set_cons_succ, List.set_cons_zero]
      intro W hW
      clear HP HM
      go_wp2_with fail
      go_roundw
      case rel => exact ⟨j + 1, _, by omega, by go_num, rfl, HX, by omega, by omega, HBW.out.trans (hW.mono HBW.out.size)⟩
      case measure => simp [intOf]; omega
    · have hxe : x = k + len := by have := hx.out; omega
      have HE := hidden hxe
      have hlt' : ¬ (j : Int) < (len : Int) := by omega
      clear hx hxe
      go_wp2
      go_ret
      exact ⟨ret_int HE.out, hbw⟩
theorem heldStringS_nil (w : World) (a : Option Addr) (cap : Nat) (k : Int) :
    Calls Try.prog 33 #[.slice a 0 cap, .int .i64 k] w fun e w' => e = .returned (.int .i64 k) ∧ w = w' := by
  go_enter Try.func33, Try.ntmps33
  go_wp2
  go_rounds 1
  go_ret
  exact ⟨rfl, rfl⟩

end Go.Proofs.Ytdbedkjnoppkmaa

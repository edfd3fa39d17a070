/-
  Contracts of the draws' reader: opened over any bytes, each pick is a number within its bound.
-/
import Derived.Test.YtdbedkjnoppkmaaMem
import Derived.Test.YtdbedkjnoppkmaaRows
import Derived.WalkSpells
import Derived.WalkLawsBesides
import Derived.Handy
import Derived.Deep.QuietTactic
import Derived.BigQuiet
import Derived.Laws.BitsAllLaws
import Derived.Laws.BitsLemmas
namespace Go.Proofs.Ytdbedkjnoppkmaa
open Go.RowKit

/-- The reader in block g: its bytes lie below B, and it has read at most P times. -/
def Rd (w : World) (B g : Nat) (P : Int) : Prop :=
  B ≤ g ∧ ∃ (a : Option Addr) (cap : Nat) (l : List Int) (p : Nat), Has w g 89 #[.slice a l.length cap, .int .i64 p] ∧ Ints w .u8 B a l ∧ l.length ≤ 2000 ∧ (p : Int) ≤ P
/-- What a pick leaves: a number in 0..n-1; the reader's block alone is another one. -/
def Picked (w : World) (B g : Nat) (P n : Int) (e : Ending) (w' : World) : Prop :=
  ∃ x : Int, e = .returned (.int .i64 x) ∧ 0 ≤ x ∧ x < n ∧ Rd w' B g (P + 1) ∧ w.grownBy w' (some g)
theorem xor_nonneg (x y : Int) (hx : 0 ≤ x) (hx' : x < 4611686018427387904) (hy : 0 ≤ y) (hy' : y < 4611686018427387904) : 0 ≤ bits .xor .i64 x y := by
  obtain ⟨a, rfl⟩ := Int.eq_ofNat_of_zero_le hx
  obtain ⟨b, rfl⟩ := Int.eq_ofNat_of_zero_le hy
  have h : a ^^^ b < 2 ^ 62 := Nat.xor_lt_two_pow (by omega) (by omega)
  show 0 ≤ IntKind.i64.wrap (((BitVec.ofInt 64 (a : Int) ^^^ BitVec.ofInt 64 (b : Int)).toNat : Nat) : Int)
  rw [BitVec.toNat_xor, BitVec.ofInt_natCast, BitVec.ofInt_natCast, BitVec.toNat_ofNat, BitVec.toNat_ofNat, Nat.mod_eq_of_lt (by omega), Nat.mod_eq_of_lt (by omega), IntKind.wrap_i64]
  omega
theorem tmod_in (x n : Int) (hx : 0 ≤ x) (hn : 1 ≤ n) : 0 ≤ x.tmod n ∧ x.tmod n < n := ⟨Int.tmod_nonneg n hx, Int.tmod_lt_of_pos x (by omega)⟩
theorem emod_in (x n : Int) (hn : 1 ≤ n) : 0 ≤ x % n ∧ x % n < n := ⟨Int.emod_nonneg x (by omega), Int.emod_lt_of_pos x (by omega)⟩

set_option maxRecDepth 100000 in
set_option maxHeartbeats 2000000 in
theorem pick_any (w : World) (B g : Nat) (P n : Int) (h : Rd w B g P) (hP : P ≤ 1000000) (hn : 1 ≤ n) (hn' : n ≤ 4294967296) :
    Calls Try.prog 36 #[.pointer (some ⟨g, 0, none⟩), .int .i64 n] w (Picked w B g P n) := by
  obtain ⟨hBg, a, cap, l, p, hh, hi, hl, hp⟩ := h
  have e0 := hh.cell 0
  have e1 := hh.cell 1
  have f1 := hh.free 1
  have hput := hh.put 1 (.int .i64 ((p : Int) + 1))
  have hR : Hid (Rd (w.setCell ⟨g, 1, none⟩ (.int .i64 ((p : Int) + 1))) B g (P + 1)) := ⟨hBg, a, cap, l, p + 1, by simpa using hput, hi.keep fun q hq => World.cell?_setCell_other w _ q _ (fun e => by subst e; simp at hq; omega), hl, by omega⟩
  have hfin : ∀ (x : Int) (m : Nat), 0 ≤ x → x < n → Picked w B g P n (.returned (.int .i64 x)) ((w.setCell ⟨g, 1, none⟩ (.int .i64 ((p : Int) + 1))).drewN m) := fun x m h0 h1 => ⟨x, rfl, h0, h1, hR.out, only_drewN (only_put 1 _) m⟩
  have HF := hidden hfin
  clear hfin hR hput hh
  simp at e0 e1
  by_cases hz : l.length = 0
  · rw [hz] at e0
    go_enter Try.func36, Try.ntmps36
    go_wp2
    go_ret
    exact HF.out 0 0 (by omega) (by omega)
  by_cases hk : p < l.length
  · obtain ⟨b, off, rfl, hb, hc⟩ := hi.at_ hk
    have hwf := wf_u8.mp (hi.wfAt hk)
    obtain ⟨x, hx⟩ : ∃ x, l.getD p 0 = x := ⟨_, rfl⟩
    rw [hx] at hc hwf
    obtain ⟨len, hL⟩ : ∃ n, l.length = n := ⟨_, rfl⟩
    rw [hL] at hk hz hl e0
    have hne : b ≠ g := by omega
    have hz' : (((len : Nat) : Int) == 0) = false := by simp; omega
    have ht := emod_in x n hn
    have HT := hidden ht
    clear hx hL hi hz ht
    go_enter Try.func36, Try.ntmps36
    go_wp2
    go_ret
    exact HF.out _ 0 HT.out.1 HT.out.2
  · obtain ⟨q, hq⟩ : ∃ q, q = p % l.length := ⟨_, rfl⟩
    obtain ⟨r, hr⟩ : ∃ r, r = (p * 7 + 3) % l.length := ⟨_, rfl⟩
    have hql : q < l.length := by rw [hq]; exact Nat.mod_lt _ (by omega)
    have hrl : r < l.length := by rw [hr]; exact Nat.mod_lt _ (by omega)
    obtain ⟨b, off, rfl, hb, hc⟩ := hi.2 (by omega)
    have cq := hc q hql
    have cr := hc r hrl
    have wq := wf_u8.mp (hi.wfAt hql)
    have wr := wf_u8.mp (hi.wfAt hrl)
    obtain ⟨x, hx⟩ : ∃ x, l.getD q 0 = x := ⟨_, rfl⟩
    obtain ⟨y, hy⟩ : ∃ y, l.getD r 0 = y := ⟨_, rfl⟩
    rw [hx] at cq wq
    rw [hy] at cr wr
    obtain ⟨len, hL⟩ : ∃ n, l.length = n := ⟨_, rfl⟩
    rw [hL] at hk hz hl e0 hq hr hql hrl
    have hne : b ≠ g := by omega
    have hz' : (((len : Nat) : Int) == 0) = false := by simp; omega
    have hz'' : 1 ≤ (len : Int) := by omega
    obtain ⟨d, hd⟩ : ∃ d, d = p / len := ⟨_, rfl⟩
    have hdp : d ≤ p := by rw [hd]; exact Nat.div_le_self _ _
    have t1 : (p : Int).tmod (len : Int) = (q : Int) := by rw [hq, Int.tmod_eq_emod_of_nonneg (by omega)]; simp
    have t2 : ((p : Int) * 7 + 3).tmod (len : Int) = (r : Int) := by rw [hr, Int.tmod_eq_emod_of_nonneg (by omega)]; simp
    have t3 : (p : Int).tdiv (len : Int) = (d : Int) := by rw [hd, Int.tdiv_eq_ediv_of_nonneg (by omega)]; simp
    have s1 : (p : Int) % (len : Int) = (q : Int) := by rw [hq]; simp
    have s2 : ((p : Int) * 7 + 3) % (len : Int) = (r : Int) := by rw [hr]; simp
    have s3 : (p : Int) / (len : Int) = (d : Int) := by rw [hd]; simp
    have i1 : (q : Int) < (len : Int) := by omega
    have i2 : (r : Int) < (len : Int) := by omega
    have hdp' : (d : Int) ≤ 1000000 := by omega
    have hpp' : (p : Int) ≤ 1000000 := by omega
    clear hx hy hL hi hz hc hq hr hd
    go_enter Try.func36, Try.ntmps36
    go_wp2
    go_quiet (fail)
    clear t1 t2 t3 s1 s2 s3
    go_wp2
    go_ret
    exact HF.out _ _ (tmod_in _ _ (xor_nonneg _ _ (by omega) (by omega) (by omega) (by omega)) hn).1 (tmod_in _ _ (xor_nonneg _ _ (by omega) (by omega) (by omega) (by omega)) hn).2

section
variable {w w' : World} {B g : Nat} {P P' : Int}
theorem Rd.lt (h : Rd w B g P) : g < w.heap.size := by
  obtain ⟨_, _, _, _, _, hh, _⟩ := h
  exact hh.lt
theorem Rd.alloc (h : Rd w B g P) (o : Obj) : Rd (w.alloc o) B g P := by
  have hlt := h.lt
  obtain ⟨hB, a, cap, l, p, hh, hi, hl, hp⟩ := h
  exact ⟨hB, a, cap, l, p, hh.alloc o, hi.alloc (by omega) o, hl, hp⟩
theorem Rd.drewN (h : Rd w B g P) (n : Nat) : Rd (w.drewN n) B g P := h
theorem Rd.mono (h : Rd w B g P) (hP : P ≤ P') : Rd w B g P' := by
  obtain ⟨hB, a, cap, l, p, hh, hi, hl, hp⟩ := h
  exact ⟨hB, a, cap, l, p, hh, hi, hl, by omega⟩
theorem Rd.grown (h : Rd w B g P) {row : Option Nat} (hg : w.grownBy w' row) (hr : ∀ k, row = some k → B ≤ k ∧ k ≠ g) : Rd w' B g P := by
  have hlt := h.lt
  obtain ⟨hB, a, cap, l, p, hh, hi, hl, hp⟩ := h
  refine ⟨hB, a, cap, l, p, hh.grown hg (fun e => (hr g e.symm).2 rfl), hi.keep fun q hq => World.cell?_of_block (hg.block q.block (by omega) (fun e => by have := (hr _ e.symm).1; omega)), hl, hp⟩
theorem Rd.below (h : Rd w B g P) {C : Nat} (hb : Below C w w') (hC : g < C) : Rd w' B g P := by
  obtain ⟨hB, a, cap, l, p, hh, hi, hl, hp⟩ := h
  exact ⟨hB, a, cap, l, p, hh.below hb hC, hi.below (hb.mono (by omega)), hl, hp⟩
end
/-- The numbers of a list that was built. -/
theorem lits_at (cs : Array Value) (zs : List Int) (hcs : cs = (zs.map (Value.int .i64)).toArray) (i : Nat) (hi : i < zs.length) : cs[i]? = some (.int .i64 (zs.getD i 0)) := by
  subst hcs
  simp [List.getD, List.getElem?_eq_getElem hi]
theorem lits_in (zs : List Int) (lo hi : Int) (h : ∀ z ∈ zs, lo ≤ z ∧ z < hi) (i : Nat) (hi' : i < zs.length) : lo ≤ zs.getD i 0 ∧ zs.getD i 0 < hi := by
  apply h
  simp [List.getD, List.getElem?_eq_getElem hi']
theorem lit_some {w : World} {b : Nat} {cs : Array Value} (zs : List Int) (h : Has w b 3 cs) (hcs : cs = (zs.map (Value.int .i64)).toArray) (i : Nat) (hi' : i < zs.length) :
    ∃ z, w.cell? ⟨b, i, none⟩ = some (.int .i64 z) := ⟨_, (h.cell i).trans (lits_at cs zs hcs i hi')⟩
/-- What a number of a built list is, where it is read: a number in its bounds. -/
theorem lit_read {w : World} {b : Nat} {cs : Array Value} (zs : List Int) (lo hi : Int) (h : Has w b 3 cs) (hcs : cs = (zs.map (Value.int .i64)).toArray) (hz : ∀ z ∈ zs, lo ≤ z ∧ z < hi) (i : Nat) (hi' : i < zs.length) :
    ∃ z, w.cell? ⟨b, i, none⟩ = some (.int .i64 z) ∧ lo ≤ z ∧ z < hi :=
  ⟨_, (h.cell i).trans (lits_at cs zs hcs i hi'), lits_in zs lo hi hz i hi'⟩

theorem l20Open_any (w : World) (a : Option Addr) (cap : Nat) (l : List Int) (h : Ints w .u8 w.heap.size a l) (hcap : l.length ≤ cap) (hlen : cap ≤ 9223372036854775807) :
    Calls Try.prog 35 #[.slice a l.length cap] w fun e w' => e = .returned (.pointer (some ⟨w.heap.size, 0, none⟩)) ∧ Rd w' w.heap.size w.heap.size 0 ∧ Below w.heap.size w w' := by
  by_cases hbig : 2000 < l.length
  · have hi : (2000 : Int) < (l.length : Int) := by omega
    have ht := h.take 2000
    have hl : (l.take 2000).length = 2000 := by rw [List.length_take]; omega
    have HH : Hid (∀ o : Obj, Ints (w.alloc o) .u8 w.heap.size a (l.take 2000)) := fun o => ht.alloc (Nat.le_refl _) o
    obtain ⟨b, off, rfl, _, _⟩ := h.2 (by omega)
    have HL := hidden hl
    clear ht hl h
    go_enter Try.func35, Try.ntmps35
    go_wp2
    go_ret
    exact ⟨rfl, ⟨Nat.le_refl _, _, cap, l.take 2000, 0, by rw [HL.out]; exact Has.new _ _ _, HH.out _, by rw [HL.out]; omega, by omega⟩, (Below.refl _ _).alloc (Nat.le_refl _) _⟩
  · have hi : ¬ (2000 : Int) < (l.length : Int) := by omega
    have HH : Hid (∀ o : Obj, Ints (w.alloc o) .u8 w.heap.size a l) := fun o => h.alloc (Nat.le_refl _) o
    clear h
    go_enter Try.func35, Try.ntmps35
    go_wp2
    go_ret
    exact ⟨rfl, ⟨Nat.le_refl _, _, cap, l, 0, Has.new _ _ _, HH.out _, by omega, by omega⟩, (Below.refl _ _).alloc (Nat.le_refl _) _⟩

end Go.Proofs.Ytdbedkjnoppkmaa

/-
  Contracts of the draws' reader: opened over any bytes, each pick is a number within its bound. A region that draws its order, for which an invariant is known: whatever order is drawn, each operation keeps the invariant and gives a value of its own type; so at the end every slot has its type. A region that draws its order, where a value is asked to keep its type only as long as an operation still takes it. Words for slices whose elements are one cell each, whatever they are; strings among them. Rows that are appended to inside a region that draws its order: the types of such a region's slots.
-/
import Derived.WalkSpells
import Derived.WalkLawsBesides
import Derived.Handy
import Derived.Deep.QuietTactic
import Derived.BigQuiet
import Derived.Laws.BitsAllLaws
import Derived.Laws.BitsLemmas
import Derived.Orders
import Derived.BigRegion
import Derived.Test.YtiocchmlmcoieaaMem
import Derived.Test.YtiocchmlmcoieaaRows
/- Contracts of the draws' reader: opened over any bytes, each pick is a number within its bound. -/
namespace Go.Proofs.Ytiocchmlmcoieaa
open Go.RowKit

/-- The reader in block g: its bytes lie below B, and it has read at most P times. -/
def Rd (w : World) (B g : Nat) (P : Int) : Prop :=
  B ≤ g ∧ ∃ (a : Option Addr) (cap : Nat) (l : List Int) (p : Nat), Has w g 87 #[.slice a l.length cap, .int .i64 p] ∧ Ints w .u8 B a l ∧ l.length ≤ 2000 ∧ (p : Int) ≤ P
/-- What a pick leaves: a number in 0..n-1; the reader's block alone is another one. -/
def Picked (w : World) (B g : Nat) (P n : Int) (e : Ending) (w' : World) : Prop :=
  ∃ x : Int, e = .returned (.int .i64 x) ∧ 0 ≤ x ∧ x < n ∧ Rd w' B g (P + 1) ∧ w.grownBy w' (some g)
theorem xor_nonneg (x y : Int) (hx : 0 ≤ x) (hx' : x < 4611686018427387904) (hy : 0 ≤ y) (hy' : y < 4611686018427387904) : 0 ≤ bits .xor .i64 x y := by
  obtain ⟨a, rfl⟩ := Int.eq_ofNat_of_zero_le hx
  obtain ⟨b, rfl⟩ := Int.eq_ofNat_of_zero_le hy
  have h : a ^^^ b < 2 ^ 62 := Nat.xor_lt_two_pow (by omega) (by omega)
  show 0 ≤ IntKind.i64.wrap (((BitVec.ofInt 64 (a : Int) ^^^ BitVec.ofInt 64 (b : Int)).toNat : Nat) : Int)
  rw [BitVec.toNat_xor, BitVec.ofInt_natCast, BitVec.ofInt_natCast, BitVec.toNat_ofNat, BitVec.toNat_ofNat, Nat.mod_eq_of_lt (by omega), Nat.mod_eq_of_lt (by omega), IntKind.wrap_i64]
  omega
theorem tmod_in (x n : Int) (hx : 0 ≤ x) (hn : 1 ≤ n) : 0 ≤ x.tmod n ∧ x.tmod n < n := ⟨Int.tmod_nonneg n hx, Int.tmod_lt_of_pos x (by omega)⟩
theorem emod_in (x n : Int) (hn : 1 ≤ n) : 0 ≤ x % n ∧ x % n < n := ⟨Int.emod_nonneg x (by omega), Int.emod_lt_of_pos x (by omega)⟩

set_option maxRecDepth 100000 in
set_option maxHeartbeats 2000000 in
theorem pick_any (w : World) (B g : Nat) (P n : Int) (h : Rd w B g P) (hP : P ≤ 1000000) (hn : 1 ≤ n) (hn' : n ≤ 4294967296) :
    Calls Try.prog 47 #[.pointer (some ⟨g, 0, none⟩), .int .i64 n] w (Picked w B g P n) := by
  obtain ⟨hBg, a, cap, l, p, hh, hi, hl, hp⟩ := h
  have e0 := hh.cell 0
  have e1 := hh.cell 1
  have f1 := hh.free 1
  have hput := hh.put 1 (.int .i64 ((p : Int) + 1))
  have hR : Hid (Rd (w.setCell ⟨g, 1, none⟩ (.int .i64 ((p : Int) + 1))) B g (P + 1)) := ⟨hBg, a, cap, l, p + 1, by simpa using hput, hi.keep fun q hq => World.cell?_setCell_other w _ q _ (fun e => by subst e; simp at hq; omega), hl, by omega⟩
  have hfin : ∀ (x : Int) (m : Nat), 0 ≤ x → x < n → Picked w B g P n (.returned (.int .i64 x)) ((w.setCell ⟨g, 1, none⟩ (.int .i64 ((p : Int) + 1))).drewN m) := fun x m h0 h1 => ⟨x, rfl, h0, h1, hR.out, only_drewN (only_put 1 _) m⟩
  have HF := hidden hfin
  clear hfin hR hput hh
  simp at e0 e1
  by_cases hz : l.length = 0
  · rw [hz] at e0
    go_enter Try.func47, Try.ntmps47
    go_wp2
    go_ret
    exact HF.out 0 0 (by omega) (by omega)
  by_cases hk : p < l.length
  · obtain ⟨b, off, rfl, hb, hc⟩ := hi.at_ hk
    have hwf := wf_u8.mp (hi.wfAt hk)
    obtain ⟨x, hx⟩ : ∃ x, l.getD p 0 = x := ⟨_, rfl⟩
    rw [hx] at hc hwf
    obtain ⟨len, hL⟩ : ∃ n, l.length = n := ⟨_, rfl⟩
    rw [hL] at hk hz hl e0
    have hne : b ≠ g := by omega
    have hz' : (((len : Nat) : Int) == 0) = false := by simp; omega
    have ht := emod_in x n hn
    have HT := hidden ht
    clear hx hL hi hz ht
    go_enter Try.func47, Try.ntmps47
    go_wp2
    go_ret
    exact HF.out _ 0 HT.out.1 HT.out.2
  · obtain ⟨q, hq⟩ : ∃ q, q = p % l.length := ⟨_, rfl⟩
    obtain ⟨r, hr⟩ : ∃ r, r = (p * 7 + 3) % l.length := ⟨_, rfl⟩
    have hql : q < l.length := by rw [hq]; exact Nat.mod_lt _ (by omega)
    have hrl : r < l.length := by rw [hr]; exact Nat.mod_lt _ (by omega)
    obtain ⟨b, off, rfl, hb, hc⟩ := hi.2 (by omega)
    have cq := hc q hql
    have cr := hc r hrl
    have wq := wf_u8.mp (hi.wfAt hql)
    have wr := wf_u8.mp (hi.wfAt hrl)
    obtain ⟨x, hx⟩ : ∃ x, l.getD q 0 = x := ⟨_, rfl⟩
    obtain ⟨y, hy⟩ : ∃ y, l.getD r 0 = y := ⟨_, rfl⟩
    rw [hx] at cq wq
    rw [hy] at cr wr
    obtain ⟨len, hL⟩ : ∃ n, l.length = n := ⟨_, rfl⟩
    rw [hL] at hk hz hl e0 hq hr hql hrl
    have hne : b ≠ g := by omega
    have hz' : (((len : Nat) : Int) == 0) = false := by simp; omega
    have hz'' : 1 ≤ (len : Int) := by omega
    obtain ⟨d, hd⟩ : ∃ d, d = p / len := ⟨_, rfl⟩
    have hdp : d ≤ p := by rw [hd]; exact Nat.div_le_self _ _
    have t1 : (p : Int).tmod (len : Int) = (q : Int) := by rw [hq, Int.tmod_eq_emod_of_nonneg (by omega)]; simp
    have t2 : ((p : Int) * 7 + 3).tmod (len : Int) = (r : Int) := by rw [hr, Int.tmod_eq_emod_of_nonneg (by omega)]; simp
    have t3 : (p : Int).tdiv (len : Int) = (d : Int) := by rw [hd, Int.tdiv_eq_ediv_of_nonneg (by omega)]; simp
    have s1 : (p : Int) % (len : Int) = (q : Int) := by rw [hq]; simp
    have s2 : ((p : Int) * 7 + 3) % (len : Int) = (r : Int) := by rw [hr]; simp
    have s3 : (p : Int) / (len : Int) = (d : Int) := by rw [hd]; simp
    have i1 : (q : Int) < (len : Int) := by omega
    have i2 : (r : Int) < (len : Int) := by omega
    have hdp' : (d : Int) ≤ 1000000 := by omega
    have hpp' : (p : Int) ≤ 1000000 := by omega
    clear hx hy hL hi hz hc hq hr hd
    go_enter Try.func47, Try.ntmps47
    go_wp2
    go_quiet (fail)
    clear t1 t2 t3 s1 s2 s3
    go_wp2
    go_ret
    exact HF.out _ _ (tmod_in _ _ (xor_nonneg _ _ (by omega) (by omega) (by omega) (by omega)) hn).1 (tmod_in _ _ (xor_nonneg _ _ (by omega) (by omega) (by omega) (by omega)) hn).2

section
variable {w w' : World} {B g : Nat} {P P' : Int}
theorem Rd.lt (h : Rd w B g P) : g < w.heap.size := by
  obtain ⟨_, _, _, _, _, hh, _⟩ := h
  exact hh.lt
theorem Rd.alloc (h : Rd w B g P) (o : Obj) : Rd (w.alloc o) B g P := by
  have hlt := h.lt
  obtain ⟨hB, a, cap, l, p, hh, hi, hl, hp⟩ := h
  exact ⟨hB, a, cap, l, p, hh.alloc o, hi.alloc (by omega) o, hl, hp⟩
theorem Rd.drewN (h : Rd w B g P) (n : Nat) : Rd (w.drewN n) B g P := h
theorem Rd.mono (h : Rd w B g P) (hP : P ≤ P') : Rd w B g P' := by
  obtain ⟨hB, a, cap, l, p, hh, hi, hl, hp⟩ := h
  exact ⟨hB, a, cap, l, p, hh, hi, hl, by omega⟩
theorem Rd.grown (h : Rd w B g P) {row : Option Nat} (hg : w.grownBy w' row) (hr : ∀ k, row = some k → B ≤ k ∧ k ≠ g) : Rd w' B g P := by
  have hlt := h.lt
  obtain ⟨hB, a, cap, l, p, hh, hi, hl, hp⟩ := h
  refine ⟨hB, a, cap, l, p, hh.grown hg (fun e => (hr g e.symm).2 rfl), hi.keep fun q hq => World.cell?_of_block (hg.block q.block (by omega) (fun e => by have := (hr _ e.symm).1; omega)), hl, hp⟩
theorem Rd.below (h : Rd w B g P) {C : Nat} (hb : Below C w w') (hC : g < C) : Rd w' B g P := by
  obtain ⟨hB, a, cap, l, p, hh, hi, hl, hp⟩ := h
  exact ⟨hB, a, cap, l, p, hh.below hb hC, hi.below (hb.mono (by omega)), hl, hp⟩
end
/-- The numbers of a list that was built. -/
theorem lits_at (cs : Array Value) (zs : List Int) (hcs : cs = (zs.map (Value.int .i64)).toArray) (i : Nat) (hi : i < zs.length) : cs[i]? = some (.int .i64 (zs.getD i 0)) := by
  subst hcs
  simp [List.getD, List.getElem?_eq_getElem hi]
theorem lits_in (zs : List Int) (lo hi : Int) (h : ∀ z ∈ zs, lo ≤ z ∧ z < hi) (i : Nat) (hi' : i < zs.length) : lo ≤ zs.getD i 0 ∧ zs.getD i 0 < hi := by
  apply h
  simp [List.getD, List.getElem?_eq_getElem hi']
theorem lit_some {w : World} {b : Nat} {cs : Array Value} (zs : List Int) (h : Has w b 3 cs) (hcs : cs = (zs.map (Value.int .i64)).toArray) (i : Nat) (hi' : i < zs.length) :
    ∃ z, w.cell? ⟨b, i, none⟩ = some (.int .i64 z) := ⟨_, (h.cell i).trans (lits_at cs zs hcs i hi')⟩
/-- What a number of a built list is, where it is read: a number in its bounds. -/
theorem lit_read {w : World} {b : Nat} {cs : Array Value} (zs : List Int) (lo hi : Int) (h : Has w b 3 cs) (hcs : cs = (zs.map (Value.int .i64)).toArray) (hz : ∀ z ∈ zs, lo ≤ z ∧ z < hi) (i : Nat) (hi' : i < zs.length) :
    ∃ z, w.cell? ⟨b, i, none⟩ = some (.int .i64 z) ∧ lo ≤ z ∧ z < hi :=
  ⟨_, (h.cell i).trans (lits_at cs zs hcs i hi'), lits_in zs lo hi hz i hi'⟩

theorem l20Open_any (w : World) (a : Option Addr) (cap : Nat) (l : List Int) (h : Ints w .u8 w.heap.size a l) (hcap : l.length ≤ cap) (hlen : cap ≤ 9223372036854775807) :
    Calls Try.prog 28 #[.slice a l.length cap] w fun e w' => e = .returned (.pointer (some ⟨w.heap.size, 0, none⟩)) ∧ Rd w' w.heap.size w.heap.size 0 ∧ Below w.heap.size w w' := by
  by_cases hbig : 2000 < l.length
  · have hi : (2000 : Int) < (l.length : Int) := by omega
    have ht := h.take 2000
    have hl : (l.take 2000).length = 2000 := by rw [List.length_take]; omega
    have HH : Hid (∀ o : Obj, Ints (w.alloc o) .u8 w.heap.size a (l.take 2000)) := fun o => ht.alloc (Nat.le_refl _) o
    obtain ⟨b, off, rfl, _, _⟩ := h.2 (by omega)
    have HL := hidden hl
    clear ht hl h
    go_enter Try.func28, Try.ntmps28
    go_wp2
    go_ret
    exact ⟨rfl, ⟨Nat.le_refl _, _, cap, l.take 2000, 0, by rw [HL.out]; exact Has.new _ _ _, HH.out _, by rw [HL.out]; omega, by omega⟩, (Below.refl _ _).alloc (Nat.le_refl _) _⟩
  · have hi : ¬ (2000 : Int) < (l.length : Int) := by omega
    have HH : Hid (∀ o : Obj, Ints (w.alloc o) .u8 w.heap.size a l) := fun o => h.alloc (Nat.le_refl _) o
    clear h
    go_enter Try.func28, Try.ntmps28
    go_wp2
    go_ret
    exact ⟨rfl, ⟨Nat.le_refl _, _, cap, l, 0, Has.new _ _ _, HH.out _, by omega, by omega⟩, (Below.refl _ _).alloc (Nat.le_refl _) _⟩

end Go.Proofs.Ytiocchmlmcoieaa
/- A region that draws its order, for which an invariant is known: whatever order is drawn, each operation keeps the invariant and gives a value of its own type; so at the end every slot has its type. -/
namespace Go.Proofs.Ytiocchmlmcoieaa
open Go.RowKit

section
variable {P : Program} {ops : Array Oper} {Q : Exit → Act → World → Prop}

/-- Between two operations of a region that draws its order: the world is as 'J' says, and each value that was reckoned meets what 'R' asks of its operation. -/
structure Going (ops : Array Oper) (J : World → Prop) (R : Nat → World → Value → Prop) (a0 : Act) (listed : Array Bool) (a : Act) (w : World) : Prop where
  world : J w
  defers : a.defers = a0.defers
  size : a.tmps.size = a0.tmps.size
  others : ∀ s, (∀ (i : Nat) (o : Oper), ops[i]? = some o → o.dst ≠ some s) → a.tmps.getD s undef = a0.tmps.getD s undef
  done : ∀ (i : Nat) (o : Oper) (d : Nat), ops[i]? = some o → listed.getD i false = true → o.dst = some d → R i w (a.tmps.getD d undef)

/-- What one operation leaves. -/
def After (J : Nat → World → Prop) (R : Nat → World → Value → Prop) (n i : Nat) (d : Option Tmp) (a : Act) (w : World) (a' : Act) (w' : World) : Prop :=
  ∃ v, a' = a.put d v ∧ J (n + 1) w' ∧ (∀ j u, R j w u → R j w' u) ∧ R i w' v
theorem After.mk {J : Nat → World → Prop} {R : Nat → World → Value → Prop} {n i : Nat} {d : Option Tmp} {a : Act} {w : World} {a' : Act} {w' : World} (v : Value) (h : a' = a.put d v) (hJ : J (n + 1) w')
    (hs : ∀ j u, R j w u → R j w' u) (hR : R i w' v) : After J R n i d a w a' w' := ⟨v, h, hJ, hs, hR⟩
/-- What is asked of one operation. -/
def StepsTo (P : Program) (ops : Array Oper) (J : Nat → World → Prop) (R : Nat → World → Value → Prop) (a0 : Act) (Q : Exit → Act → World → Prop) (i : Nat) (o : Oper) : Prop :=
  ∀ n a w, n < ops.size → J n w → (∀ s, (∀ (i : Nat) (o : Oper), ops[i]? = some o → o.dst ≠ some s) → a.tmps.getD s undef = a0.tmps.getD s undef) →
    (∀ e ∈ o.after, ∀ (oj : Oper) (d : Nat), ops[e.on]? = some oj → oj.dst = some d → Region.binds .any e = true → R e.on w (a.tmps.getD d undef)) →
    o.wp P a w (After J R n i o.dst a w) Q

theorem open_less {n : Nat} {listed : Array Bool} {i k : Nat} (hi : i < n) (hs : listed.size = n) (hu : listed.getD i true = false)
    (h : ((List.range n).filter fun j => !listed.getD j true).length ≤ k + 1) : ((List.range n).filter fun j => !(listed.setIfInBounds i true).getD j true).length ≤ k := by
  have e : ((List.range n).filter fun j => !(listed.setIfInBounds i true).getD j true) = ((List.range n).filter fun j => !listed.getD j true).filter fun j => decide (j ≠ i) := by
    rw [List.filter_filter]
    apply List.filter_congr
    intro j hj
    simp only [Array.getD_eq_getD_getElem?, Array.getElem?_setIfInBounds]
    by_cases hji : i = j
    · subst hji; simp [hs, hi]
    · have : j ≠ i := fun e => hji e.symm
      simp [hji, this]
  rw [e]
  have hlt : (((List.range n).filter fun j => !listed.getD j true).filter fun j => decide (j ≠ i)).length < ((List.range n).filter fun j => !listed.getD j true).length := by
    rw [List.length_filter_lt_length_iff_exists]
    exact ⟨i, by simpa [hi, Array.getD_eq_getD_getElem?] using hu, by simp⟩
  omega

theorem wp_region_typed {id : Nat} {a0 : Act} {w0 : World} (hm : P.follows .mixedOrders = true) (J : Nat → World → Prop) (R : Nat → World → Value → Prop)
    (hguard : ∀ (i : Nat) (o : Oper), ops[i]? = some o → o.guard = none)
    (hback : ∀ (i : Nat) (o : Oper), ops[i]? = some o → ∀ e ∈ o.after, Region.binds .any e = true → e.on < i)
    (hdst : ∀ (i j : Nat) (oi oj : Oper) (d : Nat), ops[i]? = some oi → ops[j]? = some oj → oi.dst = some d → oj.dst = some d → i = j)
    (hsz : ∀ (i : Nat) (o : Oper) (d : Nat), ops[i]? = some o → o.dst = some d → d < a0.tmps.size)
    (hmono : ∀ n w, J n w → J (n + 1) w) (hJ : J 0 w0.drew)
    (hstep : ∀ (i : Nat) (o : Oper), ops[i]? = some o → StepsTo P ops J R a0 Q i o)
    (hfin : ∀ a w, Going ops (J ops.size) R a0 (Array.replicate ops.size true) a w → Q .normal a w) :
    (Code.region id ops true).wp P Q a0 w0 := by
  have key : ∀ (fuel : Nat) (listed : Array Bool) (a : Act) (w : World), listed.size = ops.size → ((List.range ops.size).filter fun j => !listed.getD j true).length ≤ fuel → fuel ≤ ops.size → Going ops (J (ops.size - fuel)) R a0 listed a w →
      wpAny P .any ops Q fuel listed a w := by
    have up : ∀ (k n : Nat) (w : World), J n w → J (n + k) w := by
      intro k
      induction k with
      | zero => intro n w h; exact h
      | succ k ih => intro n w h; exact hmono _ _ (ih n w h)
    have last : ∀ (m : Nat) (listed : Array Bool) (a : Act) (w : World), m ≤ ops.size → listed.size = ops.size → Region.ready .any ops listed = [] → Going ops (J m) R a0 listed a w → Q .normal a w := by
      intro m listed a w hmn hs hr hg
      have all : ∀ i, i < ops.size → listed.getD i false = true := by
        intro i
        induction i using Nat.strongRecOn with
        | ind i ih =>
          intro hi
          rcases hb : listed.getD i false with _ | _
          · exfalso
            have hmem : i ∈ Region.ready .any ops listed := by
              unfold Region.ready
              simp only [List.mem_filter, List.mem_range, Bool.and_eq_true]
              refine ⟨hi, ?_, ?_⟩
              · have : listed.getD i true = listed.getD i false := by
                  simp [Array.getD_eq_getD_getElem?, Array.getElem?_eq_getElem (show i < listed.size by omega)]
                rw [this, hb]; rfl
              · rw [Array.getElem?_eq_getElem hi]
                simp only [Option.map_some, Option.getD_some, Array.all_eq_true]
                intro j hj
                rcases hbd : Region.binds .any (ops[i].after[j]) with _ | _
                · simp
                · have hlt := hback i ops[i] (Array.getElem?_eq_getElem hi) (ops[i].after[j]) (Array.getElem_mem hj) hbd
                  have := ih _ hlt (by omega)
                  simp [this]
            rw [hr] at hmem; simp at hmem
          · rfl
      refine hfin a w ⟨by have := up (ops.size - m) m w hg.world; rwa [show m + (ops.size - m) = ops.size by omega] at this, hg.defers, hg.size, hg.others, fun i o d ho _ hd => ?_⟩
      have hi : i < ops.size := by
        rcases Nat.lt_or_ge i ops.size with h | h
        · exact h
        · rw [Array.getElem?_eq_none h] at ho; cases ho
      exact hg.done i o d ho (all i hi) hd
    intro fuel
    induction fuel with
    | zero =>
      intro listed a w hs hn hfu hg
      have hr : Region.ready .any ops listed = [] := by
        have h0 : ((List.range ops.size).filter fun j => !listed.getD j true) = [] := List.eq_nil_of_length_eq_zero (by omega)
        unfold Region.ready
        rw [List.filter_eq_nil_iff] at h0 ⊢
        intro j hj hc
        exact h0 j hj (by simp only [Bool.and_eq_true] at hc; exact hc.1)
      exact ⟨hr, last _ listed a w (Nat.sub_le _ _) hs hr hg⟩
    | succ fuel ih =>
      intro listed a w hs hn hfu hg
      refine ⟨fun hr => last _ listed a w (Nat.sub_le _ _) hs hr hg, fun i hi => ?_⟩
      unfold Region.ready at hi
      simp only [List.mem_filter, List.mem_range, Bool.and_eq_true] at hi
      obtain ⟨hlt, hu, haf⟩ := hi
      have ho : ops[i]? = some ops[i] := Array.getElem?_eq_getElem hlt
      have hu' : listed.getD i true = false := by simpa using hu
      unfold wpOp
      rw [ho]
      have hw : Region.wanted ops[i] (yielded ops a.tmps) = true := by
        unfold Region.wanted; rw [hguard i _ ho]
      simp only [hw, if_true]
      refine Or.inl (Oper.wp_mono ?_ (hstep i _ ho (ops.size - (fuel + 1)) a w (by omega) hg.world hg.others ?_))
      · rintro a' w' ⟨v, rfl, hJ', hst, hv⟩
        refine ih _ _ _ (by simp [hs]) (open_less hlt hs hu' hn) (by omega) ⟨by rwa [show ops.size - fuel = ops.size - (fuel + 1) + 1 by omega], ?_, ?_, ?_, ?_⟩
        · rw [← hg.defers]; unfold Act.put; split <;> rfl
        · rw [← hg.size]; unfold Act.put; split <;> simp
        · intro s hs'
          rw [← hg.others s hs']
          have := hs' i _ ho
          unfold Act.put
          split
          · rename_i d hd
            have hne : d ≠ s := fun e => this (by rw [hd, e])
            simp [Array.getD_eq_getD_getElem?, hne]
          · rfl
        · intro j oj d hoj hl hd
          by_cases hji : i = j
          · subst hji
            rw [ho] at hoj; injection hoj with hoj
            rw [← hoj] at hd
            have hdz := hsz i _ d ho hd
            rw [← hg.size] at hdz
            rw [hd]
            simpa [Act.put, Array.getD_eq_getD_getElem?, Array.getElem?_setIfInBounds, hdz] using hv
          · have hl' : listed.getD j false = true := by
              simpa [Array.getD_eq_getD_getElem?, Array.getElem?_setIfInBounds, hji] using hl
            have hr := hst j _ (hg.done j oj d hoj hl' hd)
            have hne : ops[i].dst ≠ some d := fun e => hji (hdst i j _ _ d ho hoj e hd)
            have e : (a.put ops[i].dst v).tmps.getD d undef = a.tmps.getD d undef := by
              unfold Act.put
              split
              · rename_i d' hd'
                have : d' ≠ d := fun e => hne (by rw [hd', e])
                simp [Array.getD_eq_getD_getElem?, this]
              · rfl
            rw [e]; exact hr
      · intro e he oj d hoj hd hbind
        refine hg.done e.on oj d hoj ?_ hd
        rw [ho] at haf
        simp only [Option.map_some, Option.getD_some, Array.all_eq_true] at haf
        obtain ⟨k, hk, rfl⟩ := Array.getElem_of_mem he
        have := haf k hk
        simpa [hbind] using this
  refine wp_region_any hm (key ops.size _ a0 w0.drew (by simp) ?_ (Nat.le_refl _) ⟨by rw [Nat.sub_self]; exact hJ, rfl, rfl, fun _ _ => rfl, fun i o d ho hl hd => ?_⟩)
  · exact Nat.le_trans (List.length_filter_le _ _) (by simp)
  · have hi : i < ops.size := by
      rcases Nat.lt_or_ge i ops.size with h | h
      · exact h
      · rw [Array.getElem?_eq_none h] at ho; cases ho
    simp [Array.getD_eq_getD_getElem?, hi] at hl
end

/-- What is asked of every operation of a list, counted from i. -/
def AllFrom (p : Nat → Oper → Prop) : Nat → List Oper → Prop
  | _, [] => True
  | i, o :: r => p i o ∧ AllFrom p (i + 1) r
theorem AllFrom.get {p : Nat → Oper → Prop} : ∀ (l : List Oper) (k : Nat), AllFrom p k l → ∀ (i : Nat) (o : Oper), l[i]? = some o → p (k + i) o
  | [], _, _, i, o, h => by simp at h
  | x :: r, k, ⟨h1, h2⟩, i, o, h => by
    cases i with
    | zero => simp at h; subst h; exact h1
    | succ i =>
      have := AllFrom.get r (k + 1) h2 i o (by simpa using h)
      rwa [show k + 1 + i = k + (i + 1) by omega] at this
/-- The region's form, asked by one closed fact: no guards, edges lead back, every slot is written once and there is such a slot. -/
def plainRegion (ops : List Oper) (n : Nat) : Bool :=
  ops.all (fun o => o.guard.isNone) && (ops.zipIdx.all fun x => x.1.after.all fun e => !Region.binds .any e || decide (e.on < x.2)) &&
  decide ((ops.filterMap (·.dst)).Nodup) && ops.all fun o => match o.dst with | some d => decide (d < n) | none => true
theorem nodup_dst : ∀ (l : List Oper), (l.filterMap (·.dst)).Nodup → ∀ (i j : Nat) (oi oj : Oper) (d : Nat), l[i]? = some oi → l[j]? = some oj → oi.dst = some d → oj.dst = some d → i = j
  | [], _, i, _, _, _, _, h, _, _, _ => by simp at h
  | x :: r, hn, i, j, oi, oj, d, hi, hj, di, dj => by
    have hr : (r.filterMap (·.dst)).Nodup := by
      rw [List.filterMap_cons] at hn
      split at hn
      · exact hn
      · exact (List.nodup_cons.1 hn).2
    have hx : ∀ (k : Nat) (o : Oper), r[k]? = some o → o.dst = some d → x.dst = some d → False := by
      intro k o ho hd hxd
      rw [List.filterMap_cons, hxd] at hn
      exact (List.nodup_cons.1 hn).1 (List.mem_filterMap.2 ⟨o, List.mem_of_getElem? ho, hd⟩)
    cases i with
    | zero =>
      cases j with
      | zero => rfl
      | succ j => simp at hi hj; subst hi; exact absurd (hx j oj hj dj di) id
    | succ i =>
      cases j with
      | zero => simp at hi hj; subst hj; exact absurd (hx i oi hi di dj) id
      | succ j => rw [nodup_dst r hr i j oi oj d (by simpa using hi) (by simpa using hj) di dj]
/-- No operation of the region writes this slot. -/
def unwritten (ops : List Oper) (s : Nat) : Bool := ops.all fun o => o.dst != some s
theorem unwritten_dst {ops : List Oper} {s : Nat} (h : unwritten ops s = true) : ∀ (i : Nat) (o : Oper), ops.toArray[i]? = some o → o.dst ≠ some s := by
  intro i o ho hd
  unfold unwritten at h
  rw [List.all_eq_true] at h
  have := h o (List.mem_of_getElem? (by simpa using ho))
  simp [hd] at this
theorem wp_region_typed_lit {P : Program} {l : List Oper} {Q : Exit → Act → World → Prop} {id : Nat} {a0 : Act} {w0 : World} (hm : P.follows .mixedOrders = true) (J : Nat → World → Prop) (R : Nat → World → Value → Prop)
    (hok : plainRegion l a0.tmps.size = true) (hmono : ∀ n w, J n w → J (n + 1) w) (hJ : J 0 w0.drew)
    (hstep : AllFrom (fun i o => StepsTo P l.toArray J R a0 Q i o) 0 l)
    (hfin : ∀ a w, Going l.toArray (J l.length) R a0 (Array.replicate l.length true) a w → Q .normal a w) :
    (Code.region id l.toArray true).wp P Q a0 w0 := by
  unfold plainRegion at hok
  simp only [Bool.and_eq_true, decide_eq_true_eq] at hok
  obtain ⟨⟨⟨h1, h2⟩, h3⟩, h4⟩ := hok
  have get : ∀ (i : Nat) (o : Oper), l.toArray[i]? = some o → l[i]? = some o := fun i o h => by simpa using h
  refine wp_region_typed hm J R ?_ ?_ ?_ ?_ hmono hJ ?_ (by simpa using hfin)
  · intro i o ho
    rw [List.all_eq_true] at h1
    have := h1 o (List.mem_of_getElem? (get i o ho))
    simpa using this
  · intro i o ho e he hbd
    rw [List.all_eq_true] at h2
    have := h2 (o, i) (by rw [List.mem_zipIdx_iff_getElem?]; exact get i o ho)
    simp only [Array.all_eq_true] at this
    obtain ⟨k, hk, rfl⟩ := Array.getElem_of_mem he
    have := this k hk
    rw [hbd] at this
    simpa using this
  · intro i j oi oj d hi hj di dj
    exact nodup_dst l h3 i j oi oj d (get i oi hi) (get j oj hj) di dj
  · intro i o d ho hd
    rw [List.all_eq_true] at h4
    have := h4 o (List.mem_of_getElem? (get i o ho))
    rw [hd] at this
    simpa using this
  · intro i o ho
    have := AllFrom.get l 0 hstep i o (get i o ho)
    rwa [Nat.zero_add] at this

theorem wp_move' {P : Program} {o : Oper} {a : Act} {w : World} {K : Act → World → Prop} {Q : Exit → Act → World → Prop} {x : Operand} (h : o.op = .move x) (hK : K (a.put o.dst (a.eval x)) w) : o.wp P a w K Q := by
  unfold Oper.wp execOp; rw [h]; exact hK
theorem wp_assign' {P : Program} {o : Oper} {a : Act} {w : World} {K : Act → World → Prop} {Q : Exit → Act → World → Prop} {x : Operand} (h : o.op = .assign x) (hK : K (a.put o.dst (a.eval x)) w) : o.wp P a w K Q := by
  unfold Oper.wp execOp; rw [h]; exact hK

/-- The types of the draws' slots: a known value; a number in bounds; a built list of numbers in bounds; the address of such a number. -/
inductive Ty where
  | any
  | val (v : Value)
  | int (lo hi : Int)
  | lits (n : Nat) (lo hi : Int)
  | cell (lo hi : Int)
def Ty.has (g : Nat) : Ty → World → Value → Prop
  | .any, _, _ => True
  | .val u, _, v => v = u
  | .int lo hi, _, v => ∃ x : Int, v = .int .i64 x ∧ lo ≤ x ∧ x < hi
  | .lits n lo hi, w, v => ∃ (b : Nat) (cs : Array Value) (zs : List Int), v = .slice (some ⟨b, 0, none⟩) n n ∧ g < b ∧ Has w b 3 cs ∧ cs = (zs.map (Value.int .i64)).toArray ∧ zs.length = n ∧ ∀ z ∈ zs, lo ≤ z ∧ z < hi
  | .cell lo hi, w, v => ∃ (b i : Nat) (z : Int), v = .pointer (some ⟨b, i, none⟩) ∧ g < b ∧ w.cell? ⟨b, i, none⟩ = some (.int .i64 z) ∧ lo ≤ z ∧ z < hi
theorem Ty.grown {g : Nat} {w w' : World} (hg : w.grownBy w' (some g)) : ∀ (t : Ty) (v : Value), t.has g w v → t.has g w' v
  | .any, _, _ => trivial
  | .val _, _, h => h
  | .int _ _, _, h => h
  | .lits _ _ _, _, ⟨b, cs, zs, h1, h2, h3, h4⟩ => ⟨b, cs, zs, h1, h2, h3.grown hg (fun e => by injection e with e; omega), h4⟩
  | .cell _ _, _, ⟨b, i, z, h1, h2, h3, h4⟩ => ⟨b, i, z, h1, h2, hg.cell h3 (fun e => by simp at e; omega), h4⟩
/-- What holds between two operations of a draw: the reader is there, and nothing that was there has changed but the reader. -/
def DrawJ (W : World) (B g : Nat) (P : Int) (n : Nat) (w : World) : Prop := Rd w B g (P + (n : Int)) ∧ W.grownBy w (some g)
theorem DrawJ.up {W : World} {B g : Nat} {P : Int} (n : Nat) (w : World) (h : DrawJ W B g P n w) : DrawJ W B g P (n + 1) w := ⟨h.1.mono (by omega), h.2⟩
theorem DrawJ.alloc {W : World} {B g : Nat} {P : Int} {n : Nat} {w : World} (h : DrawJ W B g P n w) (o : Obj) : DrawJ W B g P (n + 1) (w.alloc o) := ⟨(h.1.alloc o).mono (by omega), only_alloc h.2 o⟩
theorem DrawJ.pick {W : World} {B g : Nat} {P : Int} {n : Nat} {w w' : World} (h : DrawJ W B g P n w) (hr : Rd w' B g (P + (n : Int) + 1)) (hg : w.grownBy w' (some g)) : DrawJ W B g P (n + 1) w' := ⟨hr.mono (by omega), only_trans h.2 hg⟩
/-- An array is the list of what stands at its places. -/
theorem arr_list (t : Array Value) (n : Nat) (h : t.size = n) : t = ((List.range n).map fun k => t.getD k undef).toArray := by
  apply Array.ext_getElem?
  intro i
  by_cases hi : i < n
  · simp [hi, Array.getElem?_eq_getElem (show i < t.size by omega)]
  · rw [Array.getElem?_eq_none (by omega), Array.getElem?_eq_none (by simp; omega)]
/-- The types of a region's operations, one after another. -/
def Typed (g : Nat) (tys : List Ty) (i : Nat) (w : World) (v : Value) : Prop := (tys.getD i .any).has g w v
theorem Typed.grown {g : Nat} {tys : List Ty} {w w' : World} (hg : w.grownBy w' (some g)) (j : Nat) (u : Value) (h : Typed g tys j w u) : Typed g tys j w' u := Ty.grown hg _ u h
end Go.Proofs.Ytiocchmlmcoieaa
/- A region that draws its order, where a value is asked to keep its type only as long as an operation still takes it. -/
namespace Go.Proofs.Ytiocchmlmcoieaa
open Go.RowKit

section
variable {P : Program} {ops : Array Oper} {Q : Exit → Act → World → Prop}

/-- The operations that take the value of operation j. -/
def users (ops : Array Oper) (j : Nat) : List Nat := (List.range ops.size).filter fun u => ((ops[u]?).map fun o => o.after.any fun e => e.on == j && decide (e.ground = Ground.data)).getD false
/-- The value of operation j is still asked for, where the operations in D are done. -/
def Needed (ops : Array Oper) (D : Nat → Prop) (j : Nat) : Prop := users ops j = [] ∨ ∃ u ∈ users ops j, ¬ D u
/-- The same, once operation i is done, too. -/
def NeededBy (ops : Array Oper) (D : Nat → Prop) (i j : Nat) : Prop := D j ∧ (users ops j = [] ∨ ∃ u ∈ users ops j, u ≠ i ∧ ¬ D u)
/-- Between two operations of a region that draws its order: the world is as 'J' says, and each value that was reckoned meets what 'R' asks of its operation. -/
structure Going2 (ops : Array Oper) (J : World → Prop) (R : Nat → World → Value → Prop) (a0 : Act) (listed : Array Bool) (a : Act) (w : World) : Prop where
  world : J w
  defers : a.defers = a0.defers
  size : a.tmps.size = a0.tmps.size
  down : ∀ (u : Nat) (o : Oper), listed.getD u false = true → ops[u]? = some o → ∀ e ∈ o.after, Region.binds .any e = true → listed.getD e.on false = true
  others : ∀ s, (∀ (i : Nat) (o : Oper), ops[i]? = some o → o.dst ≠ some s) → a.tmps.getD s undef = a0.tmps.getD s undef
  done : ∀ (i : Nat) (o : Oper) (d : Nat), ops[i]? = some o → listed.getD i false = true → Needed ops (fun u => listed.getD u false = true) i → o.dst = some d → R i w (a.tmps.getD d undef)

/-- What one operation leaves. -/
def After2 (ops : Array Oper) (D : Nat → Prop) (J : Nat → World → Prop) (R : Nat → World → Value → Prop) (n i : Nat) (d : Option Tmp) (a : Act) (w : World) (a' : Act) (w' : World) : Prop :=
  ∃ v, a' = a.put d v ∧ J (n + 1) w' ∧ (∀ j u, NeededBy ops D i j → R j w u → R j w' u) ∧ R i w' v
theorem After2.mk {ops : Array Oper} {D : Nat → Prop} {J : Nat → World → Prop} {R : Nat → World → Value → Prop} {n i : Nat} {d : Option Tmp} {a : Act} {w : World} {a' : Act} {w' : World} (v : Value) (h : a' = a.put d v) (hJ : J (n + 1) w')
    (hs : ∀ j u, NeededBy ops D i j → R j w u → R j w' u) (hR : R i w' v) : After2 ops D J R n i d a w a' w' := ⟨v, h, hJ, hs, hR⟩
/-- What is asked of one operation. -/
def StepsTo2 (P : Program) (ops : Array Oper) (J : Nat → World → Prop) (R : Nat → World → Value → Prop) (a0 : Act) (Q : Exit → Act → World → Prop) (i : Nat) (o : Oper) : Prop :=
  ∀ n a w (D : Nat → Prop), n < ops.size → J n w → (∀ (u : Nat) (o : Oper), D u → ops[u]? = some o → ∀ e ∈ o.after, Region.binds .any e = true → D e.on) → (∀ e ∈ o.after, Region.binds .any e = true → D e.on) → ¬ D i → (∀ s, (∀ (i : Nat) (o : Oper), ops[i]? = some o → o.dst ≠ some s) → a.tmps.getD s undef = a0.tmps.getD s undef) →
    (∀ e ∈ o.after, ∀ (oj : Oper) (d : Nat), ops[e.on]? = some oj → oj.dst = some d → e.ground = Ground.data → R e.on w (a.tmps.getD d undef)) →
    o.wp P a w (After2 ops D J R n i o.dst a w) Q

theorem wp_region_typed2 {id : Nat} {a0 : Act} {w0 : World} (hm : P.follows .mixedOrders = true) (J : Nat → World → Prop) (R : Nat → World → Value → Prop)
    (hguard : ∀ (i : Nat) (o : Oper), ops[i]? = some o → o.guard = none)
    (hback : ∀ (i : Nat) (o : Oper), ops[i]? = some o → ∀ e ∈ o.after, Region.binds .any e = true → e.on < i)
    (hdst : ∀ (i j : Nat) (oi oj : Oper) (d : Nat), ops[i]? = some oi → ops[j]? = some oj → oi.dst = some d → oj.dst = some d → i = j)
    (hsz : ∀ (i : Nat) (o : Oper) (d : Nat), ops[i]? = some o → o.dst = some d → d < a0.tmps.size)
    (hmono : ∀ n w, J n w → J (n + 1) w) (hJ : J 0 w0.drew)
    (hstep : ∀ (i : Nat) (o : Oper), ops[i]? = some o → StepsTo2 P ops J R a0 Q i o)
    (hfin : ∀ a w, Going2 ops (J ops.size) R a0 (Array.replicate ops.size true) a w → Q .normal a w) :
    (Code.region id ops true).wp P Q a0 w0 := by
  have key : ∀ (fuel : Nat) (listed : Array Bool) (a : Act) (w : World), listed.size = ops.size → ((List.range ops.size).filter fun j => !listed.getD j true).length ≤ fuel → fuel ≤ ops.size → Going2 ops (J (ops.size - fuel)) R a0 listed a w →
      wpAny P .any ops Q fuel listed a w := by
    have up : ∀ (k n : Nat) (w : World), J n w → J (n + k) w := by
      intro k
      induction k with
      | zero => intro n w h; exact h
      | succ k ih => intro n w h; exact hmono _ _ (ih n w h)
    have last : ∀ (m : Nat) (listed : Array Bool) (a : Act) (w : World), m ≤ ops.size → listed.size = ops.size → Region.ready .any ops listed = [] → Going2 ops (J m) R a0 listed a w → Q .normal a w := by
      intro m listed a w hmn hs hr hg
      have all : ∀ i, i < ops.size → listed.getD i false = true := by
        intro i
        induction i using Nat.strongRecOn with
        | ind i ih =>
          intro hi
          rcases hb : listed.getD i false with _ | _
          · exfalso
            have hmem : i ∈ Region.ready .any ops listed := by
              unfold Region.ready
              simp only [List.mem_filter, List.mem_range, Bool.and_eq_true]
              refine ⟨hi, ?_, ?_⟩
              · have : listed.getD i true = listed.getD i false := by
                  simp [Array.getD_eq_getD_getElem?, Array.getElem?_eq_getElem (show i < listed.size by omega)]
                rw [this, hb]; rfl
              · rw [Array.getElem?_eq_getElem hi]
                simp only [Option.map_some, Option.getD_some, Array.all_eq_true]
                intro j hj
                rcases hbd : Region.binds .any (ops[i].after[j]) with _ | _
                · simp
                · have hlt := hback i ops[i] (Array.getElem?_eq_getElem hi) (ops[i].after[j]) (Array.getElem_mem hj) hbd
                  have := ih _ hlt (by omega)
                  simp [this]
            rw [hr] at hmem; simp at hmem
          · rfl
      refine hfin a w ⟨by have := up (ops.size - m) m w hg.world; rwa [show m + (ops.size - m) = ops.size by omega] at this, hg.defers, hg.size, ?_, hg.others, fun i o d ho _ hne hd => ?_⟩
      · intro u o _ ho e he hbd
        have hu : u < ops.size := by
          rcases Nat.lt_or_ge u ops.size with h | h
          · exact h
          · rw [Array.getElem?_eq_none h] at ho; cases ho
        have := hback u o ho e he hbd
        simp [Array.getD_eq_getD_getElem?, show e.on < ops.size by omega]
      have hi : i < ops.size := by
        rcases Nat.lt_or_ge i ops.size with h | h
        · exact h
        · rw [Array.getElem?_eq_none h] at ho; cases ho
      refine hg.done i o d ho (all i hi) ?_ hd
      rcases hne with h | ⟨u, hu, hnu⟩
      · exact .inl h
      · exfalso
        have hus : u < ops.size := by
          unfold users at hu
          simp only [List.mem_filter, List.mem_range] at hu
          exact hu.1
        simp [Array.getD_eq_getD_getElem?, hus] at hnu
    intro fuel
    induction fuel with
    | zero =>
      intro listed a w hs hn hfu hg
      have hr : Region.ready .any ops listed = [] := by
        have h0 : ((List.range ops.size).filter fun j => !listed.getD j true) = [] := List.eq_nil_of_length_eq_zero (by omega)
        unfold Region.ready
        rw [List.filter_eq_nil_iff] at h0 ⊢
        intro j hj hc
        exact h0 j hj (by simp only [Bool.and_eq_true] at hc; exact hc.1)
      exact ⟨hr, last _ listed a w (Nat.sub_le _ _) hs hr hg⟩
    | succ fuel ih =>
      intro listed a w hs hn hfu hg
      refine ⟨fun hr => last _ listed a w (Nat.sub_le _ _) hs hr hg, fun i hi => ?_⟩
      unfold Region.ready at hi
      simp only [List.mem_filter, List.mem_range, Bool.and_eq_true] at hi
      obtain ⟨hlt, hu, haf⟩ := hi
      have ho : ops[i]? = some ops[i] := Array.getElem?_eq_getElem hlt
      have hu' : listed.getD i true = false := by simpa using hu
      unfold wpOp
      rw [ho]
      have hw : Region.wanted ops[i] (yielded ops a.tmps) = true := by
        unfold Region.wanted; rw [hguard i _ ho]
      simp only [hw, if_true]
      have hpre : ∀ e ∈ ops[i].after, Region.binds .any e = true → listed.getD e.on false = true := by
        intro e he hbind
        rw [ho] at haf
        simp only [Option.map_some, Option.getD_some, Array.all_eq_true] at haf
        obtain ⟨k, hk, rfl⟩ := Array.getElem_of_mem he
        have := haf k hk
        simpa [hbind] using this
      have hfi : listed.getD i false ≠ true := by
        intro h
        have : listed.getD i true = listed.getD i false := by
          simp [Array.getD_eq_getD_getElem?, Array.getElem?_eq_getElem (show i < listed.size by omega)]
        rw [hu', h] at this; cases this
      have hset : ∀ u, (listed.setIfInBounds i true).getD u false = true ↔ u = i ∨ listed.getD u false = true := by
        intro u
        by_cases hui : i = u
        · subst hui
          simp [Array.getD_eq_getD_getElem?, hs, hlt]
        · have hne : ¬ u = i := fun e => hui e.symm
          simp [Array.getD_eq_getD_getElem?, hui, hne]
      refine Or.inl (Oper.wp_mono ?_ (hstep i _ ho (ops.size - (fuel + 1)) a w (fun u => listed.getD u false = true) (by omega) hg.world hg.down hpre hfi hg.others ?_))
      · rintro a' w' ⟨v, rfl, hJ', hst, hv⟩
        refine ih _ _ _ (by simp [hs]) (open_less hlt hs hu' hn) (by omega) ⟨by rwa [show ops.size - fuel = ops.size - (fuel + 1) + 1 by omega], ?_, ?_, ?_, ?_, ?_⟩
        · rw [← hg.defers]; unfold Act.put; split <;> rfl
        · rw [← hg.size]; unfold Act.put; split <;> simp
        · intro u o hu2 hou e he hbd
          rw [hset] at hu2 ⊢
          rcases hu2 with rfl | hu2
          · rw [ho] at hou; injection hou with hou; subst hou
            exact .inr (hpre e he hbd)
          · exact .inr (hg.down u o hu2 hou e he hbd)
        · intro s hs'
          rw [← hg.others s hs']
          have := hs' i _ ho
          unfold Act.put
          split
          · rename_i d hd
            have hne : d ≠ s := fun e => this (by rw [hd, e])
            simp [Array.getD_eq_getD_getElem?, hne]
          · rfl
        · intro j oj d hoj hl hnd hd
          by_cases hji : i = j
          · subst hji
            rw [ho] at hoj; injection hoj with hoj
            rw [← hoj] at hd
            have hdz := hsz i _ d ho hd
            rw [← hg.size] at hdz
            rw [hd]
            simpa [Act.put, Array.getD_eq_getD_getElem?, Array.getElem?_setIfInBounds, hdz] using hv
          · have hl' : listed.getD j false = true := by
              simpa [Array.getD_eq_getD_getElem?, Array.getElem?_setIfInBounds, hji] using hl
            have hby : NeededBy ops (fun u => listed.getD u false = true) i j := by
              refine ⟨hl', ?_⟩
              rcases hnd with h | ⟨u, hu3, hnu⟩
              · exact .inl h
              · refine .inr ⟨u, hu3, ?_, ?_⟩
                · rintro rfl; exact hnu ((hset u).2 (.inl rfl))
                · intro h; exact hnu ((hset u).2 (.inr h))
            have hny : Needed ops (fun u => listed.getD u false = true) j := Or.imp (fun h => h) (fun ⟨u, h1, _, h2⟩ => ⟨u, h1, h2⟩) hby.2
            have hr := hst j _ hby (hg.done j oj d hoj hl' hny hd)
            have hne : ops[i].dst ≠ some d := fun e => hji (hdst i j _ _ d ho hoj e hd)
            have e : (a.put ops[i].dst v).tmps.getD d undef = a.tmps.getD d undef := by
              unfold Act.put
              split
              · rename_i d' hd'
                have : d' ≠ d := fun e => hne (by rw [hd', e])
                simp [Array.getD_eq_getD_getElem?, this]
              · rfl
            rw [e]; exact hr
      · intro e he oj d hoj hd hdata
        refine hg.done e.on oj d hoj (hpre e he (by rw [Region.binds, hdata])) (.inr ⟨i, ?_, hfi⟩) hd
        unfold users
        simp only [List.mem_filter, List.mem_range]
        refine ⟨hlt, ?_⟩
        rw [ho]
        simp only [Option.map_some, Option.getD_some, Array.any_eq_true]
        obtain ⟨k, hk, rfl⟩ := Array.getElem_of_mem he
        exact ⟨k, hk, by simp [hdata]⟩
  refine wp_region_any hm (key ops.size _ a0 w0.drew (by simp) ?_ (Nat.le_refl _) ⟨by rw [Nat.sub_self]; exact hJ, rfl, rfl, fun u o hl => ?_, fun _ _ => rfl, fun i o d ho hl _ hd => ?_⟩)
  · exact Nat.le_trans (List.length_filter_le _ _) (by simp)
  · exfalso
    by_cases hu : u < ops.size <;> simp [Array.getD_eq_getD_getElem?, hu] at hl
  · exfalso
    by_cases hu : i < ops.size <;> simp [Array.getD_eq_getD_getElem?, hu] at hl
end
theorem wp_region_typed2_lit {P : Program} {l : List Oper} {Q : Exit → Act → World → Prop} {id : Nat} {a0 : Act} {w0 : World} (hm : P.follows .mixedOrders = true) (J : Nat → World → Prop) (R : Nat → World → Value → Prop)
    (hok : plainRegion l a0.tmps.size = true) (hmono : ∀ n w, J n w → J (n + 1) w) (hJ : J 0 w0.drew)
    (hstep : AllFrom (fun i o => StepsTo2 P l.toArray J R a0 Q i o) 0 l)
    (hfin : ∀ a w, Going2 l.toArray (J l.length) R a0 (Array.replicate l.length true) a w → Q .normal a w) :
    (Code.region id l.toArray true).wp P Q a0 w0 := by
  unfold plainRegion at hok
  simp only [Bool.and_eq_true, decide_eq_true_eq] at hok
  obtain ⟨⟨⟨h1, h2⟩, h3⟩, h4⟩ := hok
  have get : ∀ (i : Nat) (o : Oper), l.toArray[i]? = some o → l[i]? = some o := fun i o h => by simpa using h
  refine wp_region_typed2 hm J R ?_ ?_ ?_ ?_ hmono hJ ?_ (by simpa using hfin)
  · intro i o ho
    rw [List.all_eq_true] at h1
    have := h1 o (List.mem_of_getElem? (get i o ho))
    simpa using this
  · intro i o ho e he hbd
    rw [List.all_eq_true] at h2
    have := h2 (o, i) (by rw [List.mem_zipIdx_iff_getElem?]; exact get i o ho)
    simp only [Array.all_eq_true] at this
    obtain ⟨k, hk, rfl⟩ := Array.getElem_of_mem he
    have := this k hk
    rw [hbd] at this
    simpa using this
  · intro i j oi oj d hi hj di dj
    exact nodup_dst l h3 i j oi oj d (get i oi hi) (get j oj hj) di dj
  · intro i o d ho hd
    rw [List.all_eq_true] at h4
    have := h4 o (List.mem_of_getElem? (get i o ho))
    rw [hd] at this
    simpa using this
  · intro i o ho
    have := AllFrom.get l 0 hstep i o (get i o ho)
    rwa [Nat.zero_add] at this

end Go.Proofs.Ytiocchmlmcoieaa
/- Words for slices whose elements are one cell each, whatever they are; strings among them. -/
namespace Go.Proofs.Ytiocchmlmcoieaa
open Go.RowKit

/-- The slice at address 'a' holds these cells, in a block below 'B' (where it holds any). -/
def Vals (w : World) (B : Nat) (a : Option Addr) (vs : List Value) : Prop :=
  0 < vs.length → ∃ b off, a = some ⟨b, off, none⟩ ∧ b < B ∧ ∀ i u, vs[i]? = some u → w.cell? ⟨b, off + i, none⟩ = some u
section
variable {w w' : World} {B B' : Nat} {a : Option Addr} {vs : List Value}
theorem Vals.at_ (h : Vals w B a vs) {i : Nat} (hi : i < vs.length) : ∃ b off, a = some ⟨b, off, none⟩ ∧ b < B ∧ w.cell? ⟨b, off + i, none⟩ = some vs[i] := by
  obtain ⟨b, off, ha, hb, hc⟩ := h (by omega)
  exact ⟨b, off, ha, hb, hc i _ (List.getElem?_eq_getElem hi)⟩
theorem Vals.keep (h : Vals w B a vs) (hk : ∀ p : Addr, p.block < B → w'.cell? p = w.cell? p) : Vals w' B a vs := fun hn => by
  obtain ⟨b, off, ha, hb, hc⟩ := h hn
  exact ⟨b, off, ha, hb, fun i u hi => (hk _ hb).trans (hc i u hi)⟩
theorem Vals.more (h : Vals w B a vs) (hB : B ≤ B') : Vals w B' a vs := fun hn => by
  obtain ⟨b, off, ha, hb, hc⟩ := h hn
  exact ⟨b, off, ha, by omega, hc⟩
theorem Vals.below (h : Vals w B a vs) (hb : Below B w w') : Vals w' B a vs := h.keep fun _ hp => hb.cell hp
theorem Vals.drewN (h : Vals w B a vs) (n : Nat) : Vals (w.drewN n) B a vs := h
theorem Vals.alloc (h : Vals w B a vs) (hB : B ≤ w.heap.size) (o : Obj) : Vals (w.alloc o) B a vs := h.keep fun p hp => World.cell?_alloc_lt w o p (by omega)
end
theorem vals_of_own {w : World} {base : Nat} {v : Value} {t : TypeId} {vs : List Value} (h : w.ownsRow base t 1 v vs.length vs) :
    ∃ a c, v = .slice a vs.length c ∧ vs.length ≤ c ∧ Vals w w.heap.size a vs := by
  rcases h.2 with ⟨rfl, h0⟩ | ⟨g, cap, cur, rfl, _, hh, hc, _, _, hx⟩
  · exact ⟨none, 0, by rw [h0], by omega, fun hn => by omega⟩
  · refine ⟨_, _, rfl, hc, fun _ => ⟨g, 0, rfl, Has.lt (t := t) (cs := cur) hh, fun i u hi => ?_⟩⟩
    rw [Nat.zero_add, Has.cell (t := t) (cs := cur) hh i, ← Array.getElem?_toList]
    have hl : i < vs.length := by
      rcases Nat.lt_or_ge i vs.length with h1 | h1
      · exact h1
      · rw [List.getElem?_eq_none h1] at hi; cases hi
    have e : (cur.toList.take (vs.length * 1))[i]? = cur.toList[i]? := by rw [List.getElem?_take, if_pos (by omega)]
    rw [← e, hx, hi]
theorem str_read {t : TypeId} {w : World} {b : Nat} {cs : Array Value} (ss : List ByteArray) (m : Nat) (h : Has w b t cs) (hcs : cs = (ss.map Value.string).toArray) (hz : ∀ s ∈ ss, s.size ≤ m) (i : Nat) (hi : i < ss.length) :
    ∃ s, w.cell? ⟨b, i, none⟩ = some (.string s) ∧ s.size ≤ m :=
  ⟨ss[i], by rw [h.cell, hcs]; simp [List.getElem?_eq_getElem hi], hz _ (List.getElem_mem hi)⟩

end Go.Proofs.Ytiocchmlmcoieaa
/- Rows that are appended to inside a region that draws its order: the types of such a region's slots. -/
namespace Go.Proofs.Ytiocchmlmcoieaa
open Go.RowKit

/-- append onto a row of the call's own, the source's cells known one by one. -/
theorem wp_append_cells {P : Program} {o : Oper} {a : Act} {w : World} {K : Act → World → Prop} {Q : Exit → Act → World → Prop} (s x : Operand) (t e : TypeId)
    (ho : o.op = .call { callee := .builtin .append, args := #[s, x], argTypes := #[t, t] }) (base : Nat) (z : Value) (bytes : Nat)
    (hinfo : (P.info? e).map (fun i => (i.zero, i.size, i.bytes)) = some (some z, 1, bytes)) (ht : P.underlying t = some (.slice e)) (hz1 : z.cells.size = 1)
    (v : Value) (n : Nat) (xs : List Value) (hs : a.eval s = v) (hown : w.ownsRow base e 1 v n xs)
    (b off m c : Nat) (news : List Value) (hx : a.eval x = .slice (some ⟨b, off, none⟩) m c) (hl : news.length = m) (hnews : ∀ j u, news[j]? = some u → w.cell? ⟨b, off + j, none⟩ = some u) (h1 : ∀ u ∈ news, u.oneCell' = true)
    (h63 : n + m ≤ 1000000) (hbytes : bytes ≤ 1000) (hbase : base ≤ w.heap.size)
    (h : ∀ v' w', w'.ownsRow base e 1 v' (n + m) (xs ++ news) → w.grownBy w' v.ownBlock → K (a.put o.dst v') w') : o.wp P a w K Q := by
  obtain ⟨i, hi, hz, hsz, hby⟩ := info_parts hinfo
  have hmul : (n + m) * bytes ≤ 140737488355328 := Nat.le_trans (Nat.mul_le_mul h63 hbytes) (by decide)
  refine wp_append_own w s x t ho base e i z 1 bytes ht hi hz hsz hby hz1 (by decide) v n xs hs hown ⟨b, off, none⟩ m c news hx (by omega) (fun j u hj => ?_) h1 (by unfold maxLen; omega) hmul hbase (fun v' w' h2 h3 _ => h v' w' h2 h3)
  have e : (⟨b, off, none⟩ : Addr).add j = ⟨b, off + j, none⟩ := by unfold Addr.add; split <;> simp_all
  rw [e]; exact hnews j u hj

/-- The types of such a region's slots: a known value; a new row without cells; a row of the call's own; a new row of one cell; a part of a slice that was there. -/
inductive TyB where
  | any
  | val (v : Value)
  | empty
  | row (vs : List Value)
  | one (u : Value)
  | part (vs : List Value)
def TyB.has (base : Nat) (T : TypeId) : TyB → World → Value → Prop
  | .any, _, _ => True
  | .val u, _, v => v = u
  | .empty, w, v => ∃ g, v = .slice (some ⟨g, 0, none⟩) 0 0 ∧ base ≤ g ∧ Has w g T #[]
  | .row vs, w, v => w.ownsRow base T 1 v vs.length vs
  | .one u, w, v => ∃ h, v = .slice (some ⟨h, 0, none⟩) 1 1 ∧ base ≤ h ∧ Has w h T #[u]
  | .part vs, w, v => ∃ b off c, v = .slice (some ⟨b, off, none⟩) vs.length c ∧ b < base ∧ ∀ i u, vs[i]? = some u → w.cell? ⟨b, off + i, none⟩ = some u
theorem TyB.alloc {base : Nat} {T : TypeId} {w : World} (hb : base ≤ w.heap.size) (o : Obj) : ∀ (t : TyB) (v : Value), t.has base T w v → t.has base T (w.alloc o) v
  | .any, _, _ => trivial
  | .val _, _, h => h
  | .empty, _, ⟨g, h1, h2, h3⟩ => ⟨g, h1, h2, h3.alloc o⟩
  | .row _, _, h => World.ownsRow.alloc h o
  | .one _, _, ⟨g, h1, h2, h3⟩ => ⟨g, h1, h2, h3.alloc o⟩
  | .part _, _, ⟨b, off, c, h1, h2, h3⟩ => ⟨b, off, c, h1, h2, fun i u hi => (World.cell?_alloc_lt w o _ (by show b < _; omega)).trans (h3 i u hi)⟩
/-- An append onto the new row without cells: what it leaves of the others. -/
theorem TyB.first {base : Nat} {T : TypeId} {w w' : World} {g : Nat} (hg : w.grownBy w' (some g)) (hbg : base ≤ g) (hb : base ≤ w.heap.size) (hh : Has w g T #[]) : ∀ (t : TyB) (v : Value), (match t with | .val _ => True | .part _ => True | .one _ => True | .any => True | _ => False) → t.has base T w v → t.has base T w' v
  | .any, _, _, _ => trivial
  | .val _, _, _, h => h
  | .empty, _, h, _ => h.elim
  | .row _, _, h, _ => h.elim
  | .one _, _, _, ⟨h, h1, h2, h3⟩ => ⟨h, h1, h2, h3.grown hg (fun e => by
      injection e with e
      subst e
      unfold Has at hh h3
      rw [hh] at h3
      injection h3 with h3
      injection h3 with h3
      simp at h3)⟩
  | .part _, _, _, ⟨b, off, c, h1, h2, h3⟩ => ⟨b, off, c, h1, h2, fun i u hi => (World.cell?_of_block (hg.block b (by omega) (fun e => by injection e with e; omega))).trans (h3 i u hi)⟩
/-- An append onto any row of the call's own. -/
theorem TyB.next {base : Nat} {T : TypeId} {w w' : World} {row : Option Nat} (hg : w.grownBy w' row) (hr : ∀ g, row = some g → base ≤ g) (hb : base ≤ w.heap.size) : ∀ (t : TyB) (v : Value), (match t with | .val _ => True | .part _ => True | .any => True | _ => False) → t.has base T w v → t.has base T w' v
  | .any, _, _, _ => trivial
  | .val _, _, _, h => h
  | .empty, _, h, _ => h.elim
  | .row _, _, h, _ => h.elim
  | .one _, _, h, _ => h.elim
  | .part _, _, _, ⟨b, off, c, h1, h2, h3⟩ => ⟨b, off, c, h1, h2, fun i u hi => (World.cell?_of_block (hg.block b (by omega) (fun e => by have := hr b e.symm; omega))).trans (h3 i u hi)⟩
def TypedB (base : Nat) (T : TypeId) (tys : List TyB) (i : Nat) (w : World) (v : Value) : Prop := (tys.getD i .any).has base T w v

end Go.Proofs.Ytiocchmlmcoieaa

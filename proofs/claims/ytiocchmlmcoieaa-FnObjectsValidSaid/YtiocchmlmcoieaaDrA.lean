/-
  Contracts of the draws of bytes. A region that draws its order, where what the world is asked to be hangs on the operations that are done. Contract of the draw of a section.
-/
import Derived.Deep.Cut
import Derived.Deep.CutRange
import Derived.Deep.RegionHeld3
import Derived.IntWalk
import Derived.Test.YtiocchmlmcoieaaRegion
import Derived.Test.YtiocchmlmcoieaaBase
import Derived.Test.YtiocchmlmcoieaaSecs
import Derived.Test.YtiocchmlmcoieaaDrawN
import Derived.Test.YtiocchmlmcoieaaSR
/- Contracts of the draws of bytes. -/
namespace Go.Proofs.Ytiocchmlmcoieaa
open Go.RowKit

theorem lits_at_k (k : IntKind) (cs : Array Value) (zs : List Int) (hcs : cs = (zs.map (Value.int k)).toArray) (i : Nat) (hi : i < zs.length) : cs[i]? = some (.int k (zs.getD i 0)) := by
  subst hcs
  simp [List.getD, List.getElem?_eq_getElem hi]
theorem lit_read_k (k : IntKind) {t : TypeId} {w : World} {b : Nat} {cs : Array Value} (zs : List Int) (lo hi : Int) (h : Has w b t cs) (hcs : cs = (zs.map (Value.int k)).toArray) (hz : ∀ z ∈ zs, lo ≤ z ∧ z < hi) (i : Nat) (hi' : i < zs.length) :
    ∃ z, w.cell? ⟨b, i, none⟩ = some (.int k z) ∧ lo ≤ z ∧ z < hi :=
  ⟨_, (h.cell i).trans (lits_at_k k cs zs hcs i hi'), lits_in zs lo hi hz i hi'⟩

/-- What the draw of bytes leaves. -/
def DrawnBytes (w : World) (B g : Nat) (P most : Int) (e : Ending) (w' : World) : Prop :=
  ∃ (v : Value) (l : List Int), e = .returned v ∧ w'.ownsRow w.heap.size 5 1 v l.length (l.map (Value.int .u8)) ∧ (∀ x ∈ l, (Lit.int .u8 x).wf = true) ∧ (l.length : Int) ≤ most ∧
    Rd w' B g (P + 1 + 2 * most) ∧ w.grownBy w' (some g)
set_option maxHeartbeats 2000000 in
theorem l20Bytes_any (w : World) (B g : Nat) (P most : Int) (h : Rd w B g P) (hm : 0 ≤ most) (hm' : most ≤ 100000) (hP : P + 1 + 2 * most ≤ 1000000) :
    Calls Try.prog 82 #[.pointer (some ⟨g, 0, none⟩), .int .i64 most] w (DrawnBytes w B g P most) := by
  obtain ⟨i0, hi, hz0, hz1, hz2⟩ := info_parts Try.info_u8
  have hgs := h.lt
  have hBg : B ≤ g := h.1
  go_enter Try.func82, Try.ntmps82
  go_wp2_with fail
  refine (pick_any _ B g P (most + 1) (h.alloc _) (by omega) (by omega) (by omega)).mono ?_
  rintro e w1 ⟨x, rfl, hx0, hx1, hr1, hg1⟩
  obtain ⟨j0, rfl⟩ := Int.eq_ofNat_of_zero_le hx0
  have hown1 : w1.ownsRow w.heap.size 5 1 (.slice (some ⟨w.heap.size, 0, none⟩) 0 0) 0 (([] : List Int).map (Value.int .u8)) :=
    (World.ownsRow_lit (base := w.heap.size) (e := 5) (size := 1) w #[] 0 (Nat.le_refl _) (by unfold maxLen; omega) rfl).kept hg1 (.inr (by simp [Value.ownBlock]; omega))
  have hgw1 : w.grownBy w1 (some g) := only_trans (only_alloc (World.grownBy.refl w _) _) hg1
  clear h hg1
  go_wp2
  go_loopw [5, 6] (fun v k wr => ∃ (j : Nat) (l : List Int) (Q : Int), k = .int .i64 j ∧ (l.length : Int) + j ≤ most ∧ Q + 2 * j ≤ P + 1 + 2 * most ∧ Rd wr B g Q ∧
      wr.ownsRow w.heap.size 5 1 v l.length (l.map (Value.int .u8)) ∧ Hid (∀ x ∈ l, (Lit.int .u8 x).wf = true) ∧ w.grownBy wr (some g))
    (fun _ k _ => (intOf k).toNat)
  case atStart => exact ⟨j0, [], P + 1, rfl, by simp; omega, by omega, hr1, hown1, hidden (by simp), hgw1⟩
  case round =>
    obtain ⟨j, l, Q, rfl, hlj, hQ, hr, hown, hwf, hgw⟩ := hrel
    clear hr1 hown1 hgw1
    have hsz := hgw.size
    rcases Nat.eq_zero_or_pos j with rfl | hjp
    · go_wp2
      go_ret
      exact ⟨_, l, rfl, hown, hwf.out, by omega, hr.mono (by omega), hgw⟩
    · obtain ⟨j, rfl⟩ : ∃ j', j = j' + 1 := ⟨j - 1, by omega⟩
      go_wp2_with fail
      refine (pick_any _ B g Q 256 hr (by omega) (by omega) (by omega)).mono ?_
      rintro e w2 ⟨x, rfl, x0, x1, hr2, hg2⟩
      have hown2 := hown.kept hg2 (.inr (fun e => by have := (hown.lt _ e).1; omega))
      have hgw2 := only_trans hgw hg2
      have s2 := hr2.lt
      clear hr hown hgw hg2
      go_wp2_with fail
      refine (pick_any _ B g (Q + 1) 3 (hr2.alloc _) (by omega) (by omega) (by omega)).mono ?_
      rintro e w3 ⟨y, rfl, y0, y1, hr3, hg3⟩
      obtain ⟨i, rfl⟩ := Int.eq_ofNat_of_zero_le y0
      obtain ⟨z, hz, zlo, zhi⟩ := lit_read_k .u8 [x, 0, 255] 0 256 ((Has.new _ _ _).grown hg3 (by simp; omega)) rfl (by simp; omega) i (by simp; omega)
      have hown3 := (hown2.alloc _).kept hg3 (.inr (fun e => by have := (hown2.lt _ e).1; omega))
      have hgw3 := only_trans (only_alloc hgw2 _) hg3
      clear hr2 hown2 hgw2 hg3
      have HO := hidden hown3
      have hnb : Hid (∀ q, _ = some q → w.heap.size ≤ q) := fun q hq => (hown3.lt q hq).1
      have s3 := hgw3.size
      have hl2 : l.length + 1 ≤ 100000 := by omega
      go_wp2_with (at_builtin; refine wpList_append_own _ rfl _ _ 22 rfl w.heap.size 5 i0 (.int .u8 0) 1 1 Try.underlying22 hi hz0 hz1 hz2 rfl (by decide) _ _ _ rfl (HO.out.alloc _) ⟨w3.heap.size, 0, none⟩ 1 1 [.int .u8 z] rfl rfl ?c1 ?c2 ?c3 ?c4 ?c5 ?_)
      case c1 =>
        intro t u ht
        match t, ht with
        | 0, ht => simp at ht; subst ht; simp [Addr.add]
      case c2 => intro u hu; simp at hu; subst hu; rfl
      case c3 => unfold maxLen; omega
      case c4 => omega
      case c5 => simp; omega
      · intro v' w4 hown4 hgrow _
        have hown5 : w4.ownsRow w.heap.size 5 1 v' (l ++ [z]).length ((l ++ [z]).map (Value.int .u8)) := by simpa using hown4
        have hr5 := (hr3.alloc _).grown hgrow (fun q hq => ⟨by have := hnb.out q hq; omega, by have := hnb.out q hq; omega⟩)
        have hgw5 := only_own (only_alloc hgw3 _) hgrow (fun q hq => hnb.out q hq)
        have hwf5 : Hid (∀ x ∈ l ++ [z], (Lit.int .u8 x).wf = true) := fun x hx => by
          rcases List.mem_append.1 hx with h | h
          · exact hwf.out x h
          · simp at h; subst h; exact wf_u8.mpr ⟨zlo, zhi⟩
        clear hown4 hgrow hown3 HO hnb hwf hr3 hgw3 hz
        go_wp2
        go_roundw
        case rel => exact ⟨j, l ++ [z], _, by go_num, by simp; omega, by omega, hr5, hown5, hwf5, hgw5⟩
        case measure => simp [intOf]

/-- What the draw of bytes, a place and a width leaves. -/
def DrawnPlace (w : World) (e : Ending) (w' : World) : Prop :=
  ∃ (a : Option Addr) (c : Nat) (l : List Int) (n k : Int), e = .returned (.tuple #[.slice a l.length c, .int .i64 n, .int .i64 k]) ∧ l.length ≤ c ∧ Ints w' .u8 w'.heap.size a l ∧ l.length ≤ 9 ∧ -1 ≤ n ∧ n ≤ 8 ∧ 0 ≤ k ∧ k ≤ 5 ∧ Below w.heap.size w w'




































end Go.Proofs.Ytiocchmlmcoieaa
/- A region that draws its order, where what the world is asked to be hangs on the operations that are done. -/
namespace Go.Proofs.Ytiocchmlmcoieaa
open Go.RowKit

section
variable {P : Program} {ops : Array Oper} {Q : Exit → Act → World → Prop}

/-- Between two operations of a region that draws its order: the world is as 'J' says, and each value that was reckoned meets what 'R' asks of its operation. -/
structure Going3 (ops : Array Oper) (J : (Nat → Prop) → World → Prop) (R : Nat → World → Value → Prop) (a0 : Act) (listed : Array Bool) (a : Act) (w : World) : Prop where
  world : J (fun u => listed.getD u false = true) w
  defers : a.defers = a0.defers
  size : a.tmps.size = a0.tmps.size
  down : ∀ (u : Nat) (o : Oper), listed.getD u false = true → ops[u]? = some o → ∀ e ∈ o.after, Region.binds .any e = true → listed.getD e.on false = true
  others : ∀ s, (∀ (i : Nat) (o : Oper), ops[i]? = some o → o.dst ≠ some s) → a.tmps.getD s undef = a0.tmps.getD s undef
  done : ∀ (i : Nat) (o : Oper) (d : Nat), ops[i]? = some o → listed.getD i false = true → Needed ops (fun u => listed.getD u false = true) i → o.dst = some d → R i w (a.tmps.getD d undef)

/-- What one operation leaves. -/
def After3 (ops : Array Oper) (D : Nat → Prop) (J : (Nat → Prop) → World → Prop) (R : Nat → World → Value → Prop) (i : Nat) (d : Option Tmp) (a : Act) (w : World) (a' : Act) (w' : World) : Prop :=
  ∃ v, a' = a.put d v ∧ J (fun u => u = i ∨ D u) w' ∧ (∀ j u, NeededBy ops D i j → R j w u → R j w' u) ∧ R i w' v
theorem After3.mk {ops : Array Oper} {D : Nat → Prop} {J : (Nat → Prop) → World → Prop} {R : Nat → World → Value → Prop} {i : Nat} {d : Option Tmp} {a : Act} {w : World} {a' : Act} {w' : World} (v : Value) (h : a' = a.put d v) (hJ : J (fun u => u = i ∨ D u) w')
    (hs : ∀ j u, NeededBy ops D i j → R j w u → R j w' u) (hR : R i w' v) : After3 ops D J R i d a w a' w' := ⟨v, h, hJ, hs, hR⟩
/-- What is asked of one operation. -/
def StepsTo3 (P : Program) (ops : Array Oper) (J : (Nat → Prop) → World → Prop) (R : Nat → World → Value → Prop) (a0 : Act) (Q : Exit → Act → World → Prop) (i : Nat) (o : Oper) : Prop :=
  ∀ a w (D : Nat → Prop), J D w → (∀ (u : Nat) (o : Oper), D u → ops[u]? = some o → ∀ e ∈ o.after, Region.binds .any e = true → D e.on) → (∀ e ∈ o.after, Region.binds .any e = true → D e.on) → ¬ D i → (∀ s, (∀ (i : Nat) (o : Oper), ops[i]? = some o → o.dst ≠ some s) → a.tmps.getD s undef = a0.tmps.getD s undef) →
    (∀ e ∈ o.after, ∀ (oj : Oper) (d : Nat), ops[e.on]? = some oj → oj.dst = some d → e.ground = Ground.data → R e.on w (a.tmps.getD d undef)) →
    o.wp P a w (After3 ops D J R i o.dst a w) Q

theorem wp_region_typed3 {id : Nat} {a0 : Act} {w0 : World} (hm : P.follows .mixedOrders = true) (J : (Nat → Prop) → World → Prop) (R : Nat → World → Value → Prop)
    (hguard : ∀ (i : Nat) (o : Oper), ops[i]? = some o → o.guard = none)
    (hback : ∀ (i : Nat) (o : Oper), ops[i]? = some o → ∀ e ∈ o.after, Region.binds .any e = true → e.on < i)
    (hdst : ∀ (i j : Nat) (oi oj : Oper) (d : Nat), ops[i]? = some oi → ops[j]? = some oj → oi.dst = some d → oj.dst = some d → i = j)
    (hsz : ∀ (i : Nat) (o : Oper) (d : Nat), ops[i]? = some o → o.dst = some d → d < a0.tmps.size)
    (hJ : J (fun _ => False) w0.drew)
    (hstep : ∀ (i : Nat) (o : Oper), ops[i]? = some o → StepsTo3 P ops J R a0 Q i o)
    (hfin : ∀ a w, Going3 ops J R a0 (Array.replicate ops.size true) a w → Q .normal a w) :
    (Code.region id ops true).wp P Q a0 w0 := by
  have key : ∀ (fuel : Nat) (listed : Array Bool) (a : Act) (w : World), listed.size = ops.size → ((List.range ops.size).filter fun j => !listed.getD j true).length ≤ fuel → fuel ≤ ops.size → Going3 ops J R a0 listed a w →
      wpAny P .any ops Q fuel listed a w := by
    have last : ∀ (listed : Array Bool) (a : Act) (w : World), listed.size = ops.size → Region.ready .any ops listed = [] → Going3 ops J R a0 listed a w → Q .normal a w := by
      intro listed a w hs hr hg
      have all : ∀ i, i < ops.size → listed.getD i false = true := by
        intro i
        induction i using Nat.strongRecOn with
        | ind i ih =>
          intro hi
          rcases hb : listed.getD i false with _ | _
          · exfalso
            have hmem : i ∈ Region.ready .any ops listed := by
              unfold Region.ready
              simp only [List.mem_filter, List.mem_range, Bool.and_eq_true]
              refine ⟨hi, ?_, ?_⟩
              · have : listed.getD i true = listed.getD i false := by
                  simp [Array.getD_eq_getD_getElem?, Array.getElem?_eq_getElem (show i < listed.size by omega)]
                rw [this, hb]; rfl
              · rw [Array.getElem?_eq_getElem hi]
                simp only [Option.map_some, Option.getD_some, Array.all_eq_true]
                intro j hj
                rcases hbd : Region.binds .any (ops[i].after[j]) with _ | _
                · simp
                · have hlt := hback i ops[i] (Array.getElem?_eq_getElem hi) (ops[i].after[j]) (Array.getElem_mem hj) hbd
                  have := ih _ hlt (by omega)
                  simp [this]
            rw [hr] at hmem; simp at hmem
          · rfl
      have hD : (fun u => listed.getD u false = true) = (fun u => (Array.replicate ops.size true).getD u false = true) := by
        funext u
        apply propext
        by_cases hu : u < ops.size
        · simp [all u hu, Array.getD_eq_getD_getElem?, hu]
        · simp [Array.getD_eq_getD_getElem?, hu, hs]
      refine hfin a w ⟨hD ▸ hg.world, hg.defers, hg.size, ?_, hg.others, fun i o d ho _ hne hd => ?_⟩
      · intro u o _ ho e he hbd
        have hu : u < ops.size := by
          rcases Nat.lt_or_ge u ops.size with h | h
          · exact h
          · rw [Array.getElem?_eq_none h] at ho; cases ho
        have := hback u o ho e he hbd
        simp [Array.getD_eq_getD_getElem?, show e.on < ops.size by omega]
      have hi : i < ops.size := by
        rcases Nat.lt_or_ge i ops.size with h | h
        · exact h
        · rw [Array.getElem?_eq_none h] at ho; cases ho
      refine hg.done i o d ho (all i hi) ?_ hd
      rcases hne with h | ⟨u, hu, hnu⟩
      · exact .inl h
      · exfalso
        have hus : u < ops.size := by
          unfold users at hu
          simp only [List.mem_filter, List.mem_range] at hu
          exact hu.1
        simp [Array.getD_eq_getD_getElem?, hus] at hnu
    intro fuel
    induction fuel with
    | zero =>
      intro listed a w hs hn hfu hg
      have hr : Region.ready .any ops listed = [] := by
        have h0 : ((List.range ops.size).filter fun j => !listed.getD j true) = [] := List.eq_nil_of_length_eq_zero (by omega)
        unfold Region.ready
        rw [List.filter_eq_nil_iff] at h0 ⊢
        intro j hj hc
        exact h0 j hj (by simp only [Bool.and_eq_true] at hc; exact hc.1)
      exact ⟨hr, last listed a w hs hr hg⟩
    | succ fuel ih =>
      intro listed a w hs hn hfu hg
      refine ⟨fun hr => last listed a w hs hr hg, fun i hi => ?_⟩
      unfold Region.ready at hi
      simp only [List.mem_filter, List.mem_range, Bool.and_eq_true] at hi
      obtain ⟨hlt, hu, haf⟩ := hi
      have ho : ops[i]? = some ops[i] := Array.getElem?_eq_getElem hlt
      have hu' : listed.getD i true = false := by simpa using hu
      unfold wpOp
      rw [ho]
      have hw : Region.wanted ops[i] (yielded ops a.tmps) = true := by
        unfold Region.wanted; rw [hguard i _ ho]
      simp only [hw, if_true]
      have hpre : ∀ e ∈ ops[i].after, Region.binds .any e = true → listed.getD e.on false = true := by
        intro e he hbind
        rw [ho] at haf
        simp only [Option.map_some, Option.getD_some, Array.all_eq_true] at haf
        obtain ⟨k, hk, rfl⟩ := Array.getElem_of_mem he
        have := haf k hk
        simpa [hbind] using this
      have hfi : listed.getD i false ≠ true := by
        intro h
        have : listed.getD i true = listed.getD i false := by
          simp [Array.getD_eq_getD_getElem?, Array.getElem?_eq_getElem (show i < listed.size by omega)]
        rw [hu', h] at this; cases this
      have hset : ∀ u, (listed.setIfInBounds i true).getD u false = true ↔ u = i ∨ listed.getD u false = true := by
        intro u
        by_cases hui : i = u
        · subst hui
          simp [Array.getD_eq_getD_getElem?, hs, hlt]
        · have hne : ¬ u = i := fun e => hui e.symm
          simp [Array.getD_eq_getD_getElem?, hui, hne]
      refine Or.inl (Oper.wp_mono ?_ (hstep i _ ho a w (fun u => listed.getD u false = true) hg.world hg.down hpre hfi hg.others ?_))
      · rintro a' w' ⟨v, rfl, hJ', hst, hv⟩
        refine ih _ _ _ (by simp [hs]) (open_less hlt hs hu' hn) (by omega) ⟨(by have hD : (fun u => (listed.setIfInBounds i true).getD u false = true) = (fun u => u = i ∨ listed.getD u false = true) := (funext fun u => propext (hset u)); rw [hD]; exact hJ'), ?_, ?_, ?_, ?_, ?_⟩
        · rw [← hg.defers]; unfold Act.put; split <;> rfl
        · rw [← hg.size]; unfold Act.put; split <;> simp
        · intro u o hu2 hou e he hbd
          rw [hset] at hu2 ⊢
          rcases hu2 with rfl | hu2
          · rw [ho] at hou; injection hou with hou; subst hou
            exact .inr (hpre e he hbd)
          · exact .inr (hg.down u o hu2 hou e he hbd)
        · intro s hs'
          rw [← hg.others s hs']
          have := hs' i _ ho
          unfold Act.put
          split
          · rename_i d hd
            have hne : d ≠ s := fun e => this (by rw [hd, e])
            simp [Array.getD_eq_getD_getElem?, hne]
          · rfl
        · intro j oj d hoj hl hnd hd
          by_cases hji : i = j
          · subst hji
            rw [ho] at hoj; injection hoj with hoj
            rw [← hoj] at hd
            have hdz := hsz i _ d ho hd
            rw [← hg.size] at hdz
            rw [hd]
            simpa [Act.put, Array.getD_eq_getD_getElem?, Array.getElem?_setIfInBounds, hdz] using hv
          · have hl' : listed.getD j false = true := by
              simpa [Array.getD_eq_getD_getElem?, Array.getElem?_setIfInBounds, hji] using hl
            have hby : NeededBy ops (fun u => listed.getD u false = true) i j := by
              refine ⟨hl', ?_⟩
              rcases hnd with h | ⟨u, hu3, hnu⟩
              · exact .inl h
              · refine .inr ⟨u, hu3, ?_, ?_⟩
                · rintro rfl; exact hnu ((hset u).2 (.inl rfl))
                · intro h; exact hnu ((hset u).2 (.inr h))
            have hny : Needed ops (fun u => listed.getD u false = true) j := Or.imp (fun h => h) (fun ⟨u, h1, _, h2⟩ => ⟨u, h1, h2⟩) hby.2
            have hr := hst j _ hby (hg.done j oj d hoj hl' hny hd)
            have hne : ops[i].dst ≠ some d := fun e => hji (hdst i j _ _ d ho hoj e hd)
            have e : (a.put ops[i].dst v).tmps.getD d undef = a.tmps.getD d undef := by
              unfold Act.put
              split
              · rename_i d' hd'
                have : d' ≠ d := fun e => hne (by rw [hd', e])
                simp [Array.getD_eq_getD_getElem?, this]
              · rfl
            rw [e]; exact hr
      · intro e he oj d hoj hd hdata
        refine hg.done e.on oj d hoj (hpre e he (by rw [Region.binds, hdata])) (.inr ⟨i, ?_, hfi⟩) hd
        unfold users
        simp only [List.mem_filter, List.mem_range]
        refine ⟨hlt, ?_⟩
        rw [ho]
        simp only [Option.map_some, Option.getD_some, Array.any_eq_true]
        obtain ⟨k, hk, rfl⟩ := Array.getElem_of_mem he
        exact ⟨k, hk, by simp [hdata]⟩
  refine wp_region_any hm (key ops.size _ a0 w0.drew (by simp) ?_ (Nat.le_refl _) ⟨(by have hD : (fun u => (Array.replicate ops.size false).getD u false = true) = (fun _ => False) := (by funext u; apply propext; by_cases hu : u < ops.size <;> simp [Array.getD_eq_getD_getElem?, hu]); rw [hD]; exact hJ), rfl, rfl, fun u o hl => ?_, fun _ _ => rfl, fun i o d ho hl _ hd => ?_⟩)
  · exact Nat.le_trans (List.length_filter_le _ _) (by simp)
  · exfalso
    by_cases hu : u < ops.size <;> simp [Array.getD_eq_getD_getElem?, hu] at hl
  · exfalso
    by_cases hu : i < ops.size <;> simp [Array.getD_eq_getD_getElem?, hu] at hl
end
theorem wp_region_typed3_lit {P : Program} {l : List Oper} {Q : Exit → Act → World → Prop} {id : Nat} {a0 : Act} {w0 : World} (hm : P.follows .mixedOrders = true) (J : (Nat → Prop) → World → Prop) (R : Nat → World → Value → Prop)
    (hok : plainRegion l a0.tmps.size = true) (hJ : J (fun _ => False) w0.drew)
    (hstep : AllFrom (fun i o => StepsTo3 P l.toArray J R a0 Q i o) 0 l)
    (hfin : ∀ a w, Going3 l.toArray J R a0 (Array.replicate l.length true) a w → Q .normal a w) :
    (Code.region id l.toArray true).wp P Q a0 w0 := by
  unfold plainRegion at hok
  simp only [Bool.and_eq_true, decide_eq_true_eq] at hok
  obtain ⟨⟨⟨h1, h2⟩, h3⟩, h4⟩ := hok
  have get : ∀ (i : Nat) (o : Oper), l.toArray[i]? = some o → l[i]? = some o := fun i o h => by simpa using h
  refine wp_region_typed3 hm J R ?_ ?_ ?_ ?_ hJ ?_ (by simpa using hfin)
  · intro i o ho
    rw [List.all_eq_true] at h1
    have := h1 o (List.mem_of_getElem? (get i o ho))
    simpa using this
  · intro i o ho e he hbd
    rw [List.all_eq_true] at h2
    have := h2 (o, i) (by rw [List.mem_zipIdx_iff_getElem?]; exact get i o ho)
    simp only [Array.all_eq_true] at this
    obtain ⟨k, hk, rfl⟩ := Array.getElem_of_mem he
    have := this k hk
    rw [hbd] at this
    simpa using this
  · intro i j oi oj d hi hj di dj
    exact nodup_dst l h3 i j oi oj d (get i oi hi) (get j oj hj) di dj
  · intro i o d ho hd
    rw [List.all_eq_true] at h4
    have := h4 o (List.mem_of_getElem? (get i o ho))
    rw [hd] at this
    simpa using this
  · intro i o ho
    have := AllFrom.get l 0 hstep i o (get i o ho)
    rwa [Nat.zero_add] at this

end Go.Proofs.Ytiocchmlmcoieaa
/- Contract of the draw of a section. -/
namespace Go.Proofs.Ytiocchmlmcoieaa
open Go.RowKit

theorem odd_some (w : World) (B g : Nat) (P n : Int) (h : Rd w B g P) (hP : P ≤ 1000000) (hn : 0 ≤ n) (hn' : n ≤ 4294967296) :
    Calls Try.prog 50 #[.pointer (some ⟨g, 0, none⟩), .int .i64 n] w fun e w' => ∃ b : Bool, e = .returned (.bool b) ∧ (n = 0 → b = false) ∧ Rd w' B g (P + 1) ∧ w.grownBy w' (some g) := by
  by_cases hz : n = 0
  · have hfin : Hid (Rd w B g (P + 1) ∧ w.grownBy w (some g)) := ⟨h.mono (by omega), World.grownBy.refl w _⟩
    subst hz
    clear h
    go_enter Try.func50, Try.ntmps50
    go_wp2
    go_ret
    exact ⟨false, rfl, fun _ => rfl, hfin.out.1, hfin.out.2⟩
  · exact (odd_any w B g P n h hP hn hn').mono fun e w' ⟨b, he, hr, hg⟩ => ⟨b, he, fun e => absurd e hz, hr, hg⟩
/-- A fixup of small numbers. -/
def Fx.small (f : Fx) : Prop := -10 ≤ f.pl ∧ f.pl ≤ 100 ∧ -10 ≤ f.kind ∧ f.kind ≤ 100 ∧ -10 ≤ f.to ∧ f.to ≤ 100 ∧ -2000 ≤ f.add ∧ f.add ≤ 2000
structure Sx.small (s : Sx) : Prop where
  name : s.name.size ≤ 9
  kind0 : 0 ≤ s.kind
  kind1 : s.kind ≤ 4
  align0 : 0 ≤ s.align
  align1 : s.align ≤ 16
  size0 : -1 ≤ s.size
  size1 : s.size ≤ 49
  bytes : s.bytes.length ≤ 49
  wf : ∀ x ∈ s.bytes, (Lit.int .u8 x).wf = true
  count : s.fixs.length ≤ 4
  fixs : ∀ f ∈ s.fixs, f.small
/-- The section that is being drawn, in its block; nothing that was there has changed but the reader. -/
structure DS (w W : World) (B g gs : Nat) (P : Int) (s : Sx) (a1 : Option Addr) (c1 : Nat) (a2 : Option Addr) (c2 : Nat) : Prop where
  rd : Rd W B g P
  grown : w.grownBy W (some g)
  res : Has W w.heap.size 42 #[.string ⟨#[]⟩, .int .i64 0, .int .i64 0, .slice none 0 0, .int .i64 0, .slice none 0 0]
  high : w.heap.size < gs
  sec : Has W gs 42 #[.string s.name, .int .i64 s.kind, .int .i64 s.align, .slice a1 s.bytes.length c1, .int .i64 s.size, .slice a2 s.fixs.length c2]
  own1 : W.ownsRow w.heap.size 5 1 (.slice a1 s.bytes.length c1) s.bytes.length (s.bytes.map (Value.int .u8))
  own2 : W.ownsRow w.heap.size 119 4 (.slice a2 s.fixs.length c2) s.fixs.length (flatF s.fixs)
  small : s.small
section
variable {w W W' : World} {B g gs : Nat} {P P' : Int} {s : Sx} {a1 : Option Addr} {c1 : Nat} {a2 : Option Addr} {c2 : Nat}
theorem DS.lt (d : DS w W B g gs P s a1 c1 a2 c2) (hg : g < w.heap.size) : g ≠ gs := by have := d.high; omega
theorem DS.more (d : DS w W B g gs P s a1 c1 a2 c2) (hP : P ≤ P') : DS w W B g gs P' s a1 c1 a2 c2 := { d with rd := d.rd.mono hP }
theorem DS.pick (d : DS w W B g gs P s a1 c1 a2 c2) (hl : g < w.heap.size) (hr : Rd W' B g P') (hg : W.grownBy W' (some g)) : DS w W' B g gs P' s a1 c1 a2 c2 :=
  ⟨hr, only_trans d.grown hg, d.res.grown hg (by simp; omega), d.high, d.sec.grown hg (by have := d.high; simp; omega), d.own1.kept hg (row_high d.own1 hl), d.own2.kept hg (row_high d.own2 hl), d.small⟩
theorem DS.alloc (d : DS w W B g gs P s a1 c1 a2 c2) (o : Obj) : DS w (W.alloc o) B g gs P s a1 c1 a2 c2 :=
  ⟨d.rd.alloc o, only_alloc d.grown o, d.res.alloc o, d.high, d.sec.alloc o, d.own1.alloc o, d.own2.alloc o, d.small⟩
theorem DS.kept (d : DS w W B g gs P s a1 c1 a2 c2) (_ : g < w.heap.size) (hg : W.grownBy W' none) : DS w W' B g gs P s a1 c1 a2 c2 :=
  ⟨d.rd.grown hg (by simp), only_trans d.grown ⟨hg.os, hg.tape, hg.output, hg.size, fun k hk _ => hg.block k hk (by simp)⟩, d.res.grown hg (by simp), d.high, d.sec.grown hg (by simp), d.own1.kept hg (Classical.em _), d.own2.kept hg (Classical.em _), d.small⟩
/-- A field of the section is set. -/
theorem DS.put (d : DS w W B g gs P s a1 c1 a2 c2) (hl : g < w.heap.size) (k : Nat) (u : Value) {t : Sx} (hb : t.bytes = s.bytes) (hf : t.fixs = s.fixs) (ht : t.small)
    (he : (#[.string s.name, .int .i64 s.kind, .int .i64 s.align, .slice a1 s.bytes.length c1, .int .i64 s.size, .slice a2 s.fixs.length c2] : Array Value).setIfInBounds k u = #[.string t.name, .int .i64 t.kind, .int .i64 t.align, .slice a1 s.bytes.length c1, .int .i64 t.size, .slice a2 s.fixs.length c2]) :
    DS w (W.setCell ⟨gs, k, none⟩ u) B g gs P t a1 c1 a2 c2 := by
  have hg : W.grownBy (W.setCell ⟨gs, k, none⟩ u) (some gs) := only_put' (g := gs) k u
  have hh := d.high
  have hB := d.rd.1
  have hgr : w.grownBy (W.setCell ⟨gs, k, none⟩ u) (some g) := ⟨hg.os.trans d.grown.os, hg.tape.trans d.grown.tape, hg.output.trans d.grown.output, Nat.le_trans d.grown.size hg.size, fun i hi hne => (hg.block i (Nat.lt_of_lt_of_le hi d.grown.size) (fun e => by injection e with e; omega)).trans (d.grown.block i hi hne)⟩
  refine ⟨d.rd.grown hg (fun j hj => by injection hj with hj; omega), hgr, d.res.away (p := ⟨gs, k, none⟩) (by show _ ≠ gs; omega) u, hh, ?_, ?_, ?_, ht⟩
  · rw [hb, hf, ← he]; exact d.sec.put k u
  · rw [hb]; exact d.own1.kept hg (row_apart d.own1 d.sec (by decide))
  · rw [hf]; exact d.own2.kept hg (row_apart d.own2 d.sec (by decide))
/-- The bytes are set. -/
theorem DS.bytes (d : DS w W B g gs P s a1 c1 a2 c2) (hl : g < w.heap.size) {b1 : Option Addr} {d1 : Nat} {bs : List Int} (ho : W.ownsRow w.heap.size 5 1 (.slice b1 bs.length d1) bs.length (bs.map (Value.int .u8))) (ht : ({ s with bytes := bs } : Sx).small) :
    DS w (W.setCell ⟨gs, 3, none⟩ (.slice b1 bs.length d1)) B g gs P { s with bytes := bs } b1 d1 a2 c2 := by
  have hg : W.grownBy (W.setCell ⟨gs, 3, none⟩ (.slice b1 bs.length d1)) (some gs) := only_put' (g := gs) 3 _
  have hh := d.high
  have hB := d.rd.1
  have hgr : w.grownBy (W.setCell ⟨gs, 3, none⟩ (.slice b1 bs.length d1)) (some g) := ⟨hg.os.trans d.grown.os, hg.tape.trans d.grown.tape, hg.output.trans d.grown.output, Nat.le_trans d.grown.size hg.size, fun i hi hne => (hg.block i (Nat.lt_of_lt_of_le hi d.grown.size) (fun e => by injection e with e; omega)).trans (d.grown.block i hi hne)⟩
  exact ⟨d.rd.grown hg (fun j hj => by injection hj with hj; omega), hgr, d.res.away (p := ⟨gs, 3, none⟩) (by show _ ≠ gs; omega) _, hh, d.sec.put 3 _, ho.kept hg (row_apart ho d.sec (by decide)), d.own2.kept hg (row_apart d.own2 d.sec (by decide)), ht⟩
theorem DS.app (d : DS w W B g gs P s a1 c1 a2 c2) (hl : g < w.heap.size) {v : Value} {f : Fx} (ho : W'.ownsRow w.heap.size 119 4 v (s.fixs.length + 1) (flatF s.fixs ++ [.int .i64 f.pl, .int .i64 f.kind, .int .i64 f.to, .int .i64 f.add])) (hg : W.grownBy W' (Value.slice a2 s.fixs.length c2).ownBlock)
    (hc : s.fixs.length ≤ 3) (hf : f.small) :
    ∃ b2 d2, v = .slice b2 (s.fixs.length + 1) d2 ∧ W'.cell? ⟨gs, 5, none⟩ = some (.slice a2 s.fixs.length c2) ∧ W'.frozen? ⟨gs, 5, none⟩ = false ∧ DS w (W'.setCell ⟨gs, 5, none⟩ v) B g gs P { s with fixs := s.fixs ++ [f] } a1 c1 b2 d2 := by
  have hB := d.rd.1
  have hh := d.high
  have hrow : ∀ k, (Value.slice a2 s.fixs.length c2).ownBlock = some k → w.heap.size ≤ k := fun k hk => (d.own2.lt k hk).1
  have ne : ∀ {b : Nat} {T : TypeId} {cs : Array Value}, Has W b T cs → 119 ≠ T → some b ≠ (Value.slice a2 s.fixs.length c2).ownBlock := fun hb hT e => by
    rcases row_apart d.own2 hb hT with h | h
    · rw [h] at e; cases e
    · exact h e.symm
  have hsec : Has W' gs 42 _ := d.sec.grown hg (ne d.sec (by decide))
  have hg2 : W'.grownBy (W'.setCell ⟨gs, 5, none⟩ v) (some gs) := only_put' (g := gs) 5 v
  have hgr : w.grownBy (W'.setCell ⟨gs, 5, none⟩ v) (some g) := by
    refine ⟨hg2.os.trans (hg.os.trans d.grown.os), hg2.tape.trans (hg.tape.trans d.grown.tape), hg2.output.trans (hg.output.trans d.grown.output), Nat.le_trans d.grown.size (Nat.le_trans hg.size hg2.size), fun i hi hne => ?_⟩
    have h1 := Nat.lt_of_lt_of_le hi d.grown.size
    have h2 := Nat.lt_of_lt_of_le h1 hg.size
    exact (hg2.block i h2 (fun e => by injection e with e; omega)).trans ((hg.block i h1 (fun e => by have := hrow i e.symm; omega)).trans (d.grown.block i hi hne))
  have hap1 : (Value.slice a1 s.bytes.length c1).ownBlock = none ∨ (Value.slice a1 s.bytes.length c1).ownBlock ≠ (Value.slice a2 s.fixs.length c2).ownBlock := by
    rcases d.own1.2 with ⟨e, _⟩ | ⟨k, cap, cur, e, _, hk, _⟩
    · rw [e]; exact .inl rfl
    · refine .inr fun e2 => ?_
      have hk' : Has W k 5 cur := hk
      rw [e] at e2
      exact ne hk' (by decide) (by simpa [Value.ownBlock] using e2)
  have hrd : Rd W' B g P := d.rd.grown hg (fun k hk => by have := hrow k hk; omega)
  have hv : ∃ b2 d2, v = .slice b2 (s.fixs.length + 1) d2 := by
    rcases ho.2 with ⟨_, h0⟩ | ⟨k, cap, cur, e, _⟩
    · omega
    · exact ⟨_, _, e⟩
  obtain ⟨b2, d2, rfl⟩ := hv
  have hlen : (s.fixs ++ [f]).length = s.fixs.length + 1 := by simp
  refine ⟨b2, d2, rfl, hsec.cell 5, hsec.free 5, ⟨hrd.grown hg2 (fun j hj => by injection hj with hj; omega), hgr, (d.res.grown hg (ne d.res (by decide))).away (p := ⟨gs, 5, none⟩) (by show _ ≠ gs; omega) _, hh, ?_, ?_, ?_, ?_⟩⟩
  · show Has _ gs _ #[_, _, _, _, _, .slice b2 (s.fixs ++ [f]).length d2]
    rw [hlen]; exact hsec.put 5 _
  · exact (d.own1.kept hg hap1).kept hg2 (row_apart (d.own1.kept hg hap1) hsec (by decide))
  · show World.ownsRow _ _ _ _ (.slice b2 (s.fixs ++ [f]).length d2) (s.fixs ++ [f]).length (flatF (s.fixs ++ [f]))
    rw [hlen, flatF_snoc]; exact ho.kept hg2 (row_apart ho hsec (by decide))
  · exact ⟨d.small.name, d.small.kind0, d.small.kind1, d.small.align0, d.small.align1, d.small.size0, d.small.size1, d.small.bytes, d.small.wf, by show (s.fixs ++ [f]).length ≤ 4; rw [hlen]; omega, fun x hx => by
      rcases List.mem_append.1 hx with h | h
      · exact d.small.fixs x h
      · simp only [List.mem_singleton] at h; rw [h]; exact hf⟩
end
theorem not_needed' {ops : Array Oper} {D : Nat → Prop} {i j : Nat} (us : List Nat) (hu : users ops j = us) (h : NeededBy ops D i j) (hall : ∀ u ∈ us, u = i ∨ D u) (hne : us ≠ []) : False := by
  obtain ⟨_, h⟩ := h
  rw [hu] at h
  rcases h with h | ⟨u, h1, h2, h3⟩
  · exact hne h
  · rcases hall u h1 with h | h
    · exact h2 h
    · exact h3 h
def IsFx (v : Value) : Prop := ∃ f : Fx, f.small ∧ v = .agg #[.int .i64 f.pl, .int .i64 f.kind, .int .i64 f.to, .int .i64 f.add]
/-- A row of one fixup. -/
def RowFx (g : Nat) (W : World) (v : Value) : Prop := ∃ (b : Nat) (f : Fx), f.small ∧ g < b ∧ v = .slice (some ⟨b, 0, none⟩) 1 1 ∧ Has W b 119 #[.int .i64 f.pl, .int .i64 f.kind, .int .i64 f.to, .int .i64 f.add]
/-- The row with a fixup more, ahead of its being set. -/
def MidFx (w : World) (B g gs : Nat) (P : Int) (s : Sx) (a1 : Option Addr) (c1 : Nat) (a2 : Option Addr) (c2 : Nat) (W : World) (v : Value) : Prop :=
  ∃ (b2 : Option Addr) (d2 : Nat) (f : Fx), v = .slice b2 (s.fixs.length + 1) d2 ∧ W.cell? ⟨gs, 5, none⟩ = some (.slice a2 s.fixs.length c2) ∧ W.frozen? ⟨gs, 5, none⟩ = false ∧ DS w (W.setCell ⟨gs, 5, none⟩ v) B g gs P { s with fixs := s.fixs ++ [f] } a1 c1 b2 d2
def fxTys (g gs : Nat) (many : Int) (row : Value) : List Ty := [.val (.pointer (some ⟨gs, 5, none⟩)), .val row, .val (.int .i64 many), .lits 3 (-1) 7, .val (.pointer (some ⟨g, 0, none⟩)), .int 0 3, .cell (-1) 7, .int (-1) 7, .lits 2 0 1002, .val (.pointer (some ⟨g, 0, none⟩)), .int 0 2, .cell 0 1002, .int 0 1002, .any, .any, .any, .val (.pointer (some ⟨gs, 5, none⟩)), .any]
def FxR (w : World) (B g gs : Nat) (P : Int) (s : Sx) (a1 : Option Addr) (c1 : Nat) (a2 : Option Addr) (c2 : Nat) (many : Int) (j : Nat) (W : World) (v : Value) : Prop :=
  if j = 13 then IsFx v else if j = 14 then RowFx g W v else if j = 15 then MidFx w B g gs P s a1 c1 a2 c2 W v else Typed g (fxTys g gs many (.slice a2 s.fixs.length c2)) j W v
def FxJ (w : World) (B g gs : Nat) (P : Int) (s : Sx) (a1 : Option Addr) (c1 : Nat) (a2 : Option Addr) (c2 : Nat) (D : Nat → Prop) (W : World) : Prop :=
  (¬ D 15 → (¬ D 5 → DS w W B g gs P s a1 c1 a2 c2) ∧ (¬ D 10 → DS w W B g gs (P + 1) s a1 c1 a2 c2) ∧ DS w W B g gs (P + 2) s a1 c1 a2 c2) ∧
  (D 17 → ∃ (s' : Sx) (b2 : Option Addr) (d2 : Nat), DS w W B g gs (P + 2) s' a1 c1 b2 d2)
section
variable {w W W' : World} {B g gs : Nat} {P : Int} {s : Sx} {a1 : Option Addr} {c1 : Nat} {a2 : Option Addr} {c2 : Nat} {many : Int} {D : Nat → Prop}
theorem FxJ.keep (h : FxJ w B g gs P s a1 c1 a2 c2 D W) (i : Nat) (hi : i ≠ 5 ∧ i ≠ 10 ∧ i ≠ 15 ∧ i ≠ 17) (h17 : ¬ D 17) (hk : ∀ Q, DS w W B g gs Q s a1 c1 a2 c2 → DS w W' B g gs Q s a1 c1 a2 c2) :
    FxJ w B g gs P s a1 c1 a2 c2 (fun u => u = i ∨ D u) W' := by
  refine ⟨fun h15 => ?_, fun h => ?_⟩
  · obtain ⟨k1, k2, k3⟩ := h.1 (fun d => h15 (.inr d))
    exact ⟨fun d => hk _ (k1 fun e => d (.inr e)), fun d => hk _ (k2 fun e => d (.inr e)), hk _ k3⟩
  · rcases h with h | h
    · exact absurd h.symm hi.2.2.2
    · exact absurd h h17
theorem FxR.typed {j : Nat} {v : Value} (h : FxR w B g gs P s a1 c1 a2 c2 many j W v) (hj : j ≠ 13 ∧ j ≠ 14 ∧ j ≠ 15) : Typed g (fxTys g gs many (.slice a2 s.fixs.length c2)) j W v := by
  unfold FxR at h; rwa [if_neg hj.1, if_neg hj.2.1, if_neg hj.2.2] at h
theorem FxR.of {j : Nat} {v : Value} (h : Typed g (fxTys g gs many (.slice a2 s.fixs.length c2)) j W v) (hj : j ≠ 13 ∧ j ≠ 14 ∧ j ≠ 15) : FxR w B g gs P s a1 c1 a2 c2 many j W v := by
  unfold FxR; rwa [if_neg hj.1, if_neg hj.2.1, if_neg hj.2.2]
theorem FxR.grown {j : Nat} {v : Value} (h : FxR w B g gs P s a1 c1 a2 c2 many j W v) (hj : j ≠ 15) (hg : W.grownBy W' (some g)) : FxR w B g gs P s a1 c1 a2 c2 many j W' v := by
  unfold FxR at h ⊢
  by_cases e1 : j = 13
  · rw [if_pos e1] at h ⊢; exact h
  rw [if_neg e1] at h ⊢
  by_cases e2 : j = 14
  · rw [if_pos e2] at h ⊢
    obtain ⟨b, f, h1, h2, h3, h4⟩ := h
    exact ⟨b, f, h1, h2, h3, h4.grown hg (fun e => by injection e with e; omega)⟩
  rw [if_neg e2, if_neg hj] at h ⊢
  exact Typed.grown hg j v h
end
/-- What the draw of a section leaves. -/
def DrawnX (w : World) (B g : Nat) (P n : Int) (e : Ending) (w' : World) : Prop :=
  ∃ (s : Sx) (a1 : Option Addr) (c1 : Nat) (a2 : Option Addr) (c2 : Nat), e = .returned (s.agg a1 c1 a2 c2) ∧ s.small ∧ w'.ownsRow w.heap.size 5 1 (.slice a1 s.bytes.length c1) s.bytes.length (s.bytes.map (Value.int .u8)) ∧ w'.ownsRow w.heap.size 119 4 (.slice a2 s.fixs.length c2) s.fixs.length (flatF s.fixs) ∧ Rd w' B g (P + 100) ∧ w.grownBy w' (some g) ∧ (n = 0 → 0 ≤ s.size)
set_option maxRecDepth 100000 in
set_option maxHeartbeats 2000000 in
theorem l20Section_any (w : World) (B g : Nat) (P many n : Int) (h : Rd w B g P) (hP : P ≤ 100000) (hm0 : 0 ≤ many) (hm1 : many ≤ 6) (hn : 0 ≤ n) (hn' : n ≤ 4294967296) :
    Calls Try.prog 68 #[.pointer (some ⟨g, 0, none⟩), .int .i64 many, .int .i64 n] w (DrawnX w B g P n) := by
  have hgl := h.lt
  obtain ⟨i0, hi, hq0, hq1, hq2⟩ := info_parts Try.info_fixup
  go_enter Try.func68, Try.ntmps68
  go_wp2_with fail
  refine (l20Name_any _ B g P 0 (h.alloc _) (by omega) (by omega) (by omega)).mono ?_
  rintro e w1 ⟨nm, rfl, hnm, hr1, hg1⟩
  have hres1 : Has w1 w.heap.size 42 #[.string ⟨#[]⟩, .int .i64 0, .int .i64 0, .slice none 0 0, .int .i64 0, .slice none 0 0] := (Has.new w _ _).grown hg1 (by simp; omega)
  have hW1 : w.grownBy w1 (some g) := only_trans (only_alloc (World.grownBy.refl w _) _) hg1
  clear h hg1
  go_wp2_with fail
  refine (pick_any w1 B g (P + 2) 3 hr1 (by omega) (by omega) (by omega)).mono ?_
  rintro e w2 ⟨x, rfl, x0, x1, hr2, hg2⟩
  obtain ⟨kd, hkd⟩ : ∃ kd : Int, 1 + x = kd := ⟨_, rfl⟩
  have kd0 : 1 ≤ kd := by omega
  have kd1 : kd ≤ 3 := by omega
  have hres2 := hres1.grown hg2 (by simp; omega)
  have hW2 := only_trans hW1 hg2
  clear hr1 hg2 hres1 hW1
  go_wp2_with fail
  refine (pick_any _ B g (P + 2 + 1) 4 (hr2.alloc _) (by omega) (by omega) (by omega)).mono ?_
  rintro e w3 ⟨y, rfl, y0, y1, hr3, hg3⟩
  obtain ⟨i, rfl⟩ := Int.eq_ofNat_of_zero_le y0
  have hl2 := hr2.lt
  obtain ⟨al, hal, al0, al1⟩ := lit_read [1, 2, 4, 8] 1 9 ((Has.new w2 _ _).grown hg3 (by simp; omega)) rfl (by decide) i (by simp; omega)
  have hres3 := (hres2.alloc _).grown hg3 (by simp; omega)
  have hW3 := only_trans (only_alloc hW2 _) hg3
  have hs3 : w.heap.size < w3.heap.size := hres3.lt
  have D3 : Hid (DS w (w3.alloc (.cells #[.string nm, .int .i64 kd, .int .i64 al, .slice none 0 0, .int .i64 0, .slice none 0 0] 42)) B g w3.heap.size (P + 4) ⟨nm, kd, al, [], 0, []⟩ none 0 none 0) :=
    ⟨(hr3.alloc _).mono (by omega), only_alloc hW3 _, hres3.alloc _, hs3, Has.new _ _ _, ⟨rfl, .inl ⟨rfl, rfl⟩⟩, ⟨rfl, .inl ⟨rfl, rfl⟩⟩, ⟨hnm, by show 0 ≤ kd; omega, by show kd ≤ 4; omega, by show 0 ≤ al; omega, by show al ≤ 16; omega, by show (-1 : Int) ≤ 0; omega, by show (0 : Int) ≤ 49; omega, by simp, by simp, by simp, by simp⟩⟩
  clear hr2 hr3 hg3 hres2 hres3 hW2 hW3
  go_upto_if 24 with fail
  obtain ⟨gs, hgs⟩ : ∃ q, w3.heap.size = q := ⟨_, rfl⟩
  obtain ⟨W, hW⟩ : ∃ W, w3.alloc (.cells #[.string nm, .int .i64 kd, .int .i64 al, .slice none 0 0, .int .i64 0, .slice none 0 0] 42) = W := ⟨_, rfl⟩
  rw [hW, hgs] at D3
  rw [hW, hgs]
  clear hW hgs hal hs3 hkd
  go_cut [] from 11 (fun wx => ∃ (s : Sx) (a1 : Option Addr) (c1 : Nat) (a2 : Option Addr) (c2 : Nat), s.fixs.length ≤ 3 ∧ 0 ≤ s.size ∧ Hid (DS w wx B g gs (P + 60) s a1 c1 a2 c2))
  case first =>
    by_cases hk : kd = 3
    · have hk' : (kd == 3) = true := by simp [hk]
      go_wp2_with fail
      refine (pick_any W B g (P + 4) 12 D3.out.rd (by omega) (by omega) (by omega)).mono ?_
      rintro e w4 ⟨x4, rfl, x40, x41, hr4, hg4⟩
      have D4 := hidden (D3.out.pick hgl hr4 hg4)
      clear hr4 hg4
      go_wp2_with fail
      refine (pick_any _ B g (P + 4 + 1) 9 (D4.out.rd.alloc _) (by omega) (by omega) (by omega)).mono ?_
      rintro e w5 ⟨y5, rfl, y50, y51, hr5, hg5⟩
      have hD4a := D4.out.alloc (.cells #[.int .i64 x4, .int .i64 48] 3)
      have D5 := hidden (hD4a.pick hgl hr5 hg5)
      have hl4 := D4.out.rd.lt
      obtain ⟨q, hq', hq2⟩ : ∃ q : Nat, y5 / 8 = (q : Int) ∧ q < 2 := ⟨(y5 / 8).toNat, by omega, by omega⟩
      have hq : Int.tdiv y5 8 = (q : Int) := (Int.tdiv_eq_ediv_of_nonneg y50).trans hq'
      obtain ⟨z, hz, z0, z1⟩ := lit_read [x4, 48] 0 49 ((Has.new w4 _ _).grown hg5 (by simp; omega)) rfl (by intro u hu; simp at hu; omega) q (by simpa using hq2)
      have c4 := D5.out.sec.cell 4
      have f4 := D5.out.sec.free 4
      have s5 := D5.out.small
      have HF := hidden (D5.out.put hgl 4 (.int .i64 z) (t := ⟨nm, kd, al, [], z, []⟩) rfl rfl ⟨s5.name, s5.kind0, s5.kind1, s5.align0, s5.align1, by show (-1 : Int) ≤ z; omega, by show z ≤ 49; omega, s5.bytes, s5.wf, s5.count, s5.fixs⟩ rfl)
      clear hr5 hg5 hD4a D4 D5 s5
      go_wp2_with fail
      go_meet
      exact ⟨_, none, 0, none, 0, by simp, by show (0 : Int) ≤ z; omega, HF.out.more (by omega)⟩
    · have hk' : (kd == 3) = false := by simpa using hk
      clear hk
      go_wp2_with fail
      refine (l20Bytes_any W B g (P + 4) 14 D3.out.rd (by omega) (by omega) (by omega)).mono ?_
      rintro e w4 ⟨v, bs, rfl, hob, hwf, hbl, hr4, hg4⟩
      have D4 := D3.out.pick hgl hr4 hg4
      obtain ⟨b1, d1, rfl, hd1, hib⟩ := ints_of_own' (row_lower hob D3.out.grown.size) hwf
      have c3 := D4.sec.cell 3
      have f3 := D4.sec.free 3
      have D5 := hidden ((D4.bytes hgl (row_lower hob D3.out.grown.size) ⟨D4.small.name, D4.small.kind0, D4.small.kind1, D4.small.align0, D4.small.align1, D4.small.size0, D4.small.size1, by show bs.length ≤ 49; omega, hwf, D4.small.count, D4.small.fixs⟩).more (P' := P + 33) (by omega))
      have hbl' : bs.length ≤ 14 := by omega
      clear hr4 hg4 hob D4 hib D3 hbl
      go_wp2_with fail
      refine (pick_any _ B g (P + 33) 4 D5.out.rd (by omega) (by omega) (by omega)).mono ?_
      rintro e w6 ⟨k0, rfl, k00, k01, hr6, hg6⟩
      have D6 := hidden (D5.out.pick hgl hr6 hg6)
      clear hr6 hg6 D5 c3 f3
      go_wp2_with fail
      go_loopw [8, 9] (fun at_ kk wr => ∃ (A K : Int) (fs : List Fx) (a2 : Option Addr) (c2 : Nat), at_ = .int .i64 A ∧ kk = .int .i64 K ∧ 0 ≤ A ∧ A ≤ 14 ∧ 0 ≤ K ∧ K ≤ 3 ∧ (fs.length : Int) + K ≤ 3 ∧
        Hid (DS w wr B g gs (P + 34 + 7 * (3 - K)) ⟨nm, kd, al, bs, 0, fs⟩ b1 d1 a2 c2)) (fun _ kk _ => (intOf kk).toNat)
      case atStart => exact ⟨0, k0, [], none, 0, rfl, rfl, by omega, by omega, k00, by omega, by simp; omega, hidden (D6.out.more (by omega))⟩
      case round =>
        obtain ⟨A, K, fs, a2, c2, rfl, rfl, hA0, hA1, hK0, hK1, hcnt, D0⟩ := hrel
        clear D6
        by_cases hK : K = 0
        · have hK' : ¬ 0 < K := by omega
          clear hK
          go_wp2_with fail
          go_meet
          exact ⟨_, b1, d1, a2, c2, by show fs.length ≤ 3; omega, by show (0 : Int) ≤ 0; omega, D0.out.more (by omega)⟩
        have hK' : 0 < K := by omega
        by_cases hm : many = 0
        · have hm' : ¬ 0 < many := by omega
          clear hm
          go_wp2_with fail
          go_meet
          exact ⟨_, b1, d1, a2, c2, by show fs.length ≤ 3; omega, by show (0 : Int) ≤ 0; omega, D0.out.more (by omega)⟩
        have hm' : 0 < many := by omega
        obtain ⟨PP, hPP⟩ : ∃ q, P + 34 + 7 * (3 - K) = q := ⟨_, rfl⟩
        have hPb : PP ≤ 100100 := by omega
        have D0' : Hid (DS w wr B g gs (PP + 0) ⟨nm, kd, al, bs, 0, fs⟩ b1 d1 a2 c2) := by show DS _ _ _ _ _ _ _ _ _ _ _; rw [Int.add_zero, ← hPP]; exact D0.out
        clear D0
        have D0 := D0'
        clear D0' hK hm
        go_wp2_with fail
        refine (pick_any _ B g (PP + 0) 3 D0.out.rd (by omega) (by omega) (by omega)).mono ?_
        rintro e v1 ⟨x1, rfl, l1, u1, hr1, hg1⟩
        have D1 := hidden (D0.out.pick (P' := PP + 1) hgl (by have := hr1; exact this.mono (by omega)) hg1)
        clear hr1 hg1 D0
        go_wp2_with fail
        refine (pick_any _ B g (PP + 1) 3 D1.out.rd (by omega) (by omega) (by omega)).mono ?_
        rintro e v2 ⟨x2, rfl, l2, u2, hr2, hg2⟩
        have D2 := hidden (D1.out.pick (P' := PP + 2) hgl (by have := hr2; exact this.mono (by omega)) hg2)
        clear hr2 hg2 D1
        go_wp2_with fail
        refine (pick_any _ B g (PP + 2) many D2.out.rd (by omega) (by omega) (by omega)).mono ?_
        rintro e v3 ⟨x3, rfl, l3, u3, hr3, hg3⟩
        have D3 := hidden (D2.out.pick (P' := PP + 3) hgl (by have := hr3; exact this.mono (by omega)) hg3)
        clear hr3 hg3 D2
        go_wp2_with fail
        refine (pick_any _ B g (PP + 3) 9 D3.out.rd (by omega) (by omega) (by omega)).mono ?_
        rintro e v4 ⟨x4, rfl, l4, u4, hr4, hg4⟩
        have D4 := hidden (D3.out.pick (P' := PP + 4) hgl (by have := hr4; exact this.mono (by omega)) hg4)
        clear hr4 hg4 D3
        go_wp2_with fail
        refine (pick_any _ B g (PP + 4) 256 D4.out.rd (by omega) (by omega) (by omega)).mono ?_
        rintro e v5 ⟨x5, rfl, l5, u5, hr5, hg5⟩
        have D5 := hidden (D4.out.pick (P' := PP + 5) hgl (by have := hr5; exact this.mono (by omega)) hg5)
        clear hr5 hg5 D4
        go_wp2_with fail
        refine (pick_any _ B g (PP + 5) 256 D5.out.rd (by omega) (by omega) (by omega)).mono ?_
        rintro e v6 ⟨x6, rfl, l6, u6, hr6, hg6⟩
        have D6 := hidden (D5.out.pick (P' := PP + 6) hgl (by have := hr6; exact this.mono (by omega)) hg6)
        clear hr6 hg6 D5
        go_wp2_with fail
        refine (pick_any _ B g (PP + 6) 7 ((D6.out.rd.alloc _).alloc _) (by omega) (by omega) (by omega)).mono ?_
        rintro e v7 ⟨x7, rfl, l7, u7, hr7, hg7⟩
        obtain ⟨i7, rfl⟩ := Int.eq_ofNat_of_zero_le l7
        have hl6 := D6.out.rd.lt
        have D7 := hidden (((D6.out.alloc (.cells #[.int .i64 (x4 - 4), .int .i64 0, .int .i64 x5, .int .i64 (-x6)] 3)).alloc (.cells #[.int .i64 0, .int .i64 0, .int .i64 0, .int .i64 1, .int .i64 1, .int .i64 2, .int .i64 3] 3)).pick (P' := PP + 7) hgl (by have := hr7; exact this.mono (by omega)) hg7)
        have LA : Has v7 v6.heap.size 3 #[.int .i64 (x4 - 4), .int .i64 0, .int .i64 x5, .int .i64 (-x6)] := ((Has.new v6 _ _).alloc _).grown hg7 (by simp; omega)
        have LB : Has v7 (v6.heap.size + 1) 3 #[.int .i64 0, .int .i64 0, .int .i64 0, .int .i64 1, .int .i64 1, .int .i64 2, .int .i64 3] := by
          have hb := (Has.new (v6.alloc (.cells #[.int .i64 (x4 - 4), .int .i64 0, .int .i64 x5, .int .i64 (-x6)] 3)) 3 #[.int .i64 0, .int .i64 0, .int .i64 0, .int .i64 1, .int .i64 1, .int .i64 2, .int .i64 3]).grown hg7 (by simp; omega)
          simpa using hb
        obtain ⟨z, hz, z0, z1⟩ := lit_read [0, 0, 0, 1, 1, 2, 3] 0 4 LB rfl (by decide) i7 (by simp; omega)
        obtain ⟨iz, rfl⟩ := Int.eq_ofNat_of_zero_le z0
        obtain ⟨ad, had, ad0, ad1⟩ := lit_read [x4 - 4, 0, x5, -x6] (-256) 257 LA rfl (by intro u hu; simp at hu; omega) iz (by simp; omega)
        clear hr7 hg7 D6 LA LB hl6
        go_upto_region 10 with fail
        have D8 := hidden (D7.out.alloc (.cells #[.int .i64 (A + x1), .int .i64 (1 + x2), .int .i64 x3, .int .i64 ad] 119))
        have FB := hidden (Has.new v7 119 #[.int .i64 (A + x1), .int .i64 (1 + x2), .int .i64 x3, .int .i64 ad])
        have hgf : g < v7.heap.size := D7.out.rd.lt
        have hwf0 : w.heap.size ≤ v7.heap.size := D7.out.grown.size
        obtain ⟨fa, hfa⟩ : ∃ q, A + x1 = q := ⟨_, rfl⟩
        obtain ⟨fk, hfk⟩ : ∃ q, 1 + x2 = q := ⟨_, rfl⟩
        rw [hfa, hfk] at D8 FB
        rw [hfa, hfk]
        have fa0 : 0 ≤ fa := by omega
        have fa1 : fa ≤ 16 := by omega
        have fk0 : 1 ≤ fk := by omega
        have fk1 : fk ≤ 3 := by omega
        obtain ⟨V, hV⟩ : ∃ q, v7.alloc (.cells #[.int .i64 fa, .int .i64 fk, .int .i64 x3, .int .i64 ad] 119) = q := ⟨_, rfl⟩
        rw [hV] at D8 FB
        rw [hV]
        obtain ⟨bf, hbf⟩ : ∃ q, v7.heap.size = q := ⟨_, rfl⟩
        rw [hbf] at FB hgf hwf0
        rw [hbf]
        have hrow : Hid (∀ k, (Value.slice a2 fs.length c2).ownBlock = some k → k < bf) := fun k hk => by rw [← hbf]; exact (D7.out.own2.lt k hk).2
        have hgsf : gs < bf := by rw [← hbf]; exact D7.out.sec.lt
        clear hV hbf hfa hfk D7 hz had l7 u7 z0 z1 l1 u1 l2 u2
        have HK : Hid (∀ W', Below V.heap.size V W' → (W'.cell? ⟨bf, 0, none⟩ = some (.int .i64 fa) ∧ W'.cell? ⟨bf, 1, none⟩ = some (.int .i64 fk) ∧ W'.cell? ⟨gs, 3, none⟩ = some (.slice b1 bs.length d1)) ∧ Below V.heap.size V W') := fun W' hW =>
          ⟨⟨(hW.cell FB.out.lt).trans (FB.out.cell 0), (hW.cell FB.out.lt).trans (FB.out.cell 1), (hW.cell D8.out.sec.lt).trans (D8.out.sec.cell 3)⟩, hW⟩
        have HFW := hidden (fun W => fixupWide'_any fk W)
        obtain ⟨wd0, wd1⟩ := wideOf_bounds fk
        obtain ⟨wd, hwd⟩ : ∃ q, wideOf fk = q := ⟨_, rfl⟩
        rw [hwd] at HFW wd0 wd1
        clear hwd
        have hsum : IntKind.i64.wrap (fa + wd) = fa + wd := IntWalk.i64_in _ (by omega)
        by_cases hover : (bs.length : Int) < fa + wd
        · go_region_held3 (fun W' => (W'.cell? ⟨bf, 0, none⟩ = some (.int .i64 fa) ∧ W'.cell? ⟨bf, 1, none⟩ = some (.int .i64 fk) ∧ W'.cell? ⟨gs, 3, none⟩ = some (.slice b1 bs.length d1)) ∧ Below V.heap.size V W')
            (first | exact HK.out _ (Below.refl _ _).drew | exact HK.out _ ((Below.refl _ _).drew.trans (by assumption)))
            ((refine (HFW.out _).mono ?_; rintro e8 w8 ⟨rfl, hb8⟩))
          have hbV : Below V.heap.size V w8 := (Below.refl _ V).drew.trans hb8
          have D9 := D8.out.kept hgl ⟨hbV.os, hbV.tape, hbV.output, hbV.size, fun k hk _ => hbV.block k hk⟩
          clear HK HFW hb8 hbV D8 hsum
          go_wp2_with fail
          go_meet
          exact ⟨_, b1, d1, a2, c2, by show fs.length ≤ 3; omega, by show (0 : Int) ≤ 0; omega, D9.more (by omega)⟩
        · have hle : fa + wd ≤ bs.length := by omega
          go_region_held3 (fun W' => (W'.cell? ⟨bf, 0, none⟩ = some (.int .i64 fa) ∧ W'.cell? ⟨bf, 1, none⟩ = some (.int .i64 fk) ∧ W'.cell? ⟨gs, 3, none⟩ = some (.slice b1 bs.length d1)) ∧ Below V.heap.size V W')
            (first | exact HK.out _ (Below.refl _ _).drew | exact HK.out _ ((Below.refl _ _).drew.trans (by assumption)))
            ((refine (HFW.out _).mono ?_; rintro e8 w8 ⟨rfl, hb8⟩))
          have hbV : Below V.heap.size V w8 := (Below.refl _ V).drew.trans hb8
          have D9 := hidden (D8.out.kept hgl ⟨hbV.os, hbV.tape, hbV.output, hbV.size, fun k hk _ => hbV.block k hk⟩)
          have F9 := hidden (FB.out.below hbV FB.out.lt)
          have c5 := D9.out.sec.cell 5
          have f0 : w8.cell? ⟨bf, 0, none⟩ = some (.int .i64 fa) := F9.out.cell 0
          have f1 : w8.cell? ⟨bf, 1, none⟩ = some (.int .i64 fk) := F9.out.cell 1
          have f2 : w8.cell? ⟨bf, 2, none⟩ = some (.int .i64 x3) := F9.out.cell 2
          have f3 : w8.cell? ⟨bf, 3, none⟩ = some (.int .i64 ad) := F9.out.cell 3
          clear HK hb8 hbV D8 FB
          go_wp2_with (at_builtin; refine wpList_append_own _ rfl (.tmp 85) (.tmp 87) 40 rfl w.heap.size 119 i0 (.agg #[.int .i64 0, .int .i64 0, .int .i64 0, .int .i64 0]) 4 32 Try.underlying40 hi hq0 hq1 hq2 rfl (by decide) _ _ _ rfl (D9.out.own2.alloc _) ⟨w8.heap.size, 0, none⟩ 1 1 [.int .i64 fa, .int .i64 fk, .int .i64 x3, .int .i64 ad] rfl rfl ?c1 ?c2 ?c3 ?c4 ?c5 ?_)
          case c2 => exact ⟨rfl, rfl, rfl, rfl⟩
          case c3 => unfold maxLen; show fs.length + 1 ≤ _; omega
          case c4 => show (fs.length + 1) * 32 ≤ _; omega
          case c5 => have := D9.out.grown.size; simp; omega
          intro v' w10 hown hgrow _
          obtain ⟨b3, d3, rfl, e5, f5, D10⟩ := (D9.out.alloc _).app hgl hown hgrow (by show fs.length ≤ 3; omega) (f := ⟨fa, fk, x3, ad⟩) ⟨by show (-10 : Int) ≤ fa; omega, by show fa ≤ 100; omega, by show (-10 : Int) ≤ fk; omega, by show fk ≤ 100; omega, by show (-10 : Int) ≤ x3; omega, by show x3 ≤ 100; omega, by show (-2000 : Int) ≤ ad; omega, by show ad ≤ 2000; omega⟩
          go_upto_region 12 with fail
          have F10 := hidden (((F9.out.alloc (.cells #[.int .i64 fa, .int .i64 fk, .int .i64 x3, .int .i64 ad] 119)).grown hgrow (fun e => by have := hrow.out bf e.symm; omega)).away (p := ⟨gs, 5, none⟩) (by show bf ≠ gs; omega) (.slice b3 (fs.length + 1) d3))
          obtain ⟨X, hX⟩ : ∃ q, w10.setCell ⟨gs, 5, none⟩ (.slice b3 (fs.length + 1) d3) = q := ⟨_, rfl⟩
          have D11 := hidden D10
          clear D10
          rw [hX] at D11 F10
          rw [hX]
          clear hX hown hgrow e5 f5 F9 D9 c5 f0 f1 f2 f3 hrow
          have HK : Hid (∀ W', Below X.heap.size X W' → (W'.cell? ⟨bf, 0, none⟩ = some (.int .i64 fa) ∧ W'.cell? ⟨bf, 1, none⟩ = some (.int .i64 fk)) ∧ Below X.heap.size X W') := fun W' hW =>
            ⟨⟨(hW.cell F10.out.lt).trans (F10.out.cell 0), (hW.cell F10.out.lt).trans (F10.out.cell 1)⟩, hW⟩
          go_region_held3 (fun W' => (W'.cell? ⟨bf, 0, none⟩ = some (.int .i64 fa) ∧ W'.cell? ⟨bf, 1, none⟩ = some (.int .i64 fk)) ∧ Below X.heap.size X W')
            (first | exact HK.out _ (Below.refl _ _).drew | exact HK.out _ ((Below.refl _ _).drew.trans (by assumption)))
            ((refine (HFW.out _).mono ?_; rintro e8 w11 ⟨rfl, hb11⟩))
          have hbX : Below X.heap.size X w11 := (Below.refl _ X).drew.trans hb11
          have D12 := hidden (D11.out.kept hgl ⟨hbX.os, hbX.tape, hbX.output, hbX.size, fun k hk _ => hbX.block k hk⟩)
          clear HK HFW hb11 hbX D11 F10 hsum
          go_wp2_with fail
          go_roundw
          case rel => exact ⟨fa + wd, K - 1, fs ++ [⟨fa, fk, x3, ad⟩], b3, d3, rfl, by go_num, by omega, by omega, by omega, by omega, by simp; omega, by
            have e1 : P + 34 + 7 * (3 - (K - 1)) = PP + 7 := by omega
            have e2 : (fs ++ [(⟨fa, fk, x3, ad⟩ : Fx)]).length = fs.length + 1 := by simp
            rw [e1]; exact D12⟩
          case measure => simp [intOf]; omega
  case rest =>
    obtain ⟨s, a1, c1, a2, c2, hn3, hs0, D⟩ := hcut
    go_wp2_with fail
    refine (odd_some wc B g (P + 60) n D.out.rd (by omega) hn hn').mono ?_
    rintro e w1 ⟨b, rfl, hbz, hr1, hg1⟩
    have D1 := hidden (D.out.pick hgl hr1 hg1)
    clear D hr1 hg1
    go_upto_if 98 with fail
    go_cut [] from 99 (fun wx => ∃ (s : Sx) (a1 : Option Addr) (c1 : Nat) (a2 : Option Addr) (c2 : Nat), (n = 0 → 0 ≤ s.size) ∧ Hid (DS w wx B g gs (P + 100) s a1 c1 a2 c2))
    case first =>
      rcases b with _ | _
      · go_wp2_with fail
        go_meet
        exact ⟨s, a1, c1, a2, c2, fun _ => hs0, D1.out.more (by omega)⟩
      have hn0 : ¬ n = 0 := fun e => by have := hbz e; cases this
      go_wp2_with fail
      refine (pick_any w1 B g (P + 60 + 1) 6 D1.out.rd (by omega) (by omega) (by omega)).mono ?_
      rintro e w2 ⟨x, rfl, x0, x1, hr2, hg2⟩
      have D2 := hidden (D1.out.pick hgl hr2 hg2)
      clear D1 hr2 hg2
      by_cases q0 : x = 0
      · have q0' : (x == 0) = true := by simp [q0]
        clear q0
        go_wp2_with fail
        refine (l20Name_any w2 B g (P + 60 + 1 + 1) 1 D2.out.rd (by omega) (by omega) (by omega)).mono ?_
        rintro e w3 ⟨nm', rfl, hnm', hr3, hg3⟩
        have D3 := hidden (D2.out.pick hgl hr3 hg3)
        have cl := D3.out.sec.cell 0
        have fl := D3.out.sec.free 0
        have k := D3.out.small
        have HF := hidden (D3.out.put hgl 0 (.string nm') (t := { s with name := nm' }) rfl rfl ⟨hnm', k.kind0, k.kind1, k.align0, k.align1, k.size0, k.size1, k.bytes, k.wf, k.count, k.fixs⟩ rfl)
        clear D3 D2 hr3 hg3 k
        go_wp2_with fail
        go_meet
        exact ⟨_, a1, c1, a2, c2, fun e => absurd e hn0, HF.out.more (by omega)⟩
      have q0' : (x == 0) = false := by simpa using q0
      by_cases q1 : x = 1
      · have q1' : (x == 1) = true := by simp [q1]
        clear q0 q1
        go_wp2_with fail
        refine (pick_any _ B g (P + 60 + 1 + 1) 2 (D2.out.rd.alloc _) (by omega) (by omega) (by omega)).mono ?_
        rintro e w3 ⟨y, rfl, y0, y1, hr3, hg3⟩
        obtain ⟨i, rfl⟩ := Int.eq_ofNat_of_zero_le y0
        have hl2 := D2.out.rd.lt
        have D3 := hidden ((D2.out.alloc (.cells #[.int .i64 0, .int .i64 4] 3)).pick hgl hr3 hg3)
        obtain ⟨z, hz, z0, z1⟩ := lit_read [0, 4] (0) 5 ((Has.new w2 _ _).grown hg3 (by simp; omega)) rfl (by decide) i (by simp; omega)
        have cl := D3.out.sec.cell 1
        have fl := D3.out.sec.free 1
        have k := D3.out.small
        have HF := hidden (D3.out.put hgl 1 (.int .i64 z) (t := { s with kind := z }) rfl rfl ⟨k.name, by show (0 : Int) ≤ z; omega, by show z ≤ 4; omega, k.align0, k.align1, k.size0, k.size1, k.bytes, k.wf, k.count, k.fixs⟩ rfl)
        clear D3 D2 hr3 hg3 k
        go_wp2_with fail
        go_meet
        exact ⟨_, a1, c1, a2, c2, fun e => absurd e hn0, HF.out.more (by omega)⟩
      have q1' : (x == 1) = false := by simpa using q1
      by_cases q2 : x = 2
      · have q2' : (x == 2) = true := by simp [q2]
        clear q0 q1 q2
        go_wp2_with fail
        refine (pick_any _ B g (P + 60 + 1 + 1) 3 (D2.out.rd.alloc _) (by omega) (by omega) (by omega)).mono ?_
        rintro e w3 ⟨y, rfl, y0, y1, hr3, hg3⟩
        obtain ⟨i, rfl⟩ := Int.eq_ofNat_of_zero_le y0
        have hl2 := D2.out.rd.lt
        have D3 := hidden ((D2.out.alloc (.cells #[.int .i64 0, .int .i64 3, .int .i64 16] 3)).pick hgl hr3 hg3)
        obtain ⟨z, hz, z0, z1⟩ := lit_read [0, 3, 16] (0) 17 ((Has.new w2 _ _).grown hg3 (by simp; omega)) rfl (by decide) i (by simp; omega)
        have cl := D3.out.sec.cell 2
        have fl := D3.out.sec.free 2
        have k := D3.out.small
        have HF := hidden (D3.out.put hgl 2 (.int .i64 z) (t := { s with align := z }) rfl rfl ⟨k.name, k.kind0, k.kind1, by show (0 : Int) ≤ z; omega, by show z ≤ 16; omega, k.size0, k.size1, k.bytes, k.wf, k.count, k.fixs⟩ rfl)
        clear D3 D2 hr3 hg3 k
        go_wp2_with fail
        go_meet
        exact ⟨_, a1, c1, a2, c2, fun e => absurd e hn0, HF.out.more (by omega)⟩
      have q2' : (x == 2) = false := by simpa using q2
      by_cases q3 : x = 3
      · have q3' : (x == 3) = true := by simp [q3]
        clear q0 q1 q2 q3
        go_wp2_with fail
        refine (pick_any _ B g (P + 60 + 1 + 1) 2 (D2.out.rd.alloc _) (by omega) (by omega) (by omega)).mono ?_
        rintro e w3 ⟨y, rfl, y0, y1, hr3, hg3⟩
        obtain ⟨i, rfl⟩ := Int.eq_ofNat_of_zero_le y0
        have hl2 := D2.out.rd.lt
        have D3 := hidden ((D2.out.alloc (.cells #[.int .i64 (-1), .int .i64 49] 3)).pick hgl hr3 hg3)
        obtain ⟨z, hz, z0, z1⟩ := lit_read [-1, 49] (-1) 50 ((Has.new w2 _ _).grown hg3 (by simp; omega)) rfl (by decide) i (by simp; omega)
        have cl := D3.out.sec.cell 4
        have fl := D3.out.sec.free 4
        have k := D3.out.small
        have HF := hidden (D3.out.put hgl 4 (.int .i64 z) (t := { s with size := z }) rfl rfl ⟨k.name, k.kind0, k.kind1, k.align0, k.align1, by show (-1 : Int) ≤ z; omega, by show z ≤ 49; omega, k.bytes, k.wf, k.count, k.fixs⟩ rfl)
        clear D3 D2 hr3 hg3 k
        go_wp2_with fail
        go_meet
        exact ⟨_, a1, c1, a2, c2, fun e => absurd e hn0, HF.out.more (by omega)⟩
      have q3' : (x == 3) = false := by simpa using q3
      by_cases q4 : x = 4
      · have q4' : (x == 4) = true := by simp [q4]
        clear q0 q1 q2 q3 q4
        go_upto_region 25 with fail
        have hDd : Hid (DS w w2.drew B g gs (P + 60 + 1 + 1) s a1 c1 a2 c2) := D2.out.kept hgl ⟨rfl, rfl, rfl, Nat.le_refl _, fun _ _ _ => rfl⟩
        refine wp_region_typed3_lit (by kernel_rfl) (FxJ w B g gs (P + 60 + 1 + 1) s a1 c1 a2 c2) (FxR w B g gs (P + 60 + 1 + 1 + 2) s a1 c1 a2 c2 many) (by kernel_rfl) ⟨fun _ => ⟨fun _ => hDd.out, fun _ => hDd.out.more (by omega), hDd.out.more (by omega)⟩, fun h => h.elim⟩ ?_ ?_
        · refine ⟨?_, ?_, ?_, ?_, ?_, ?_, ?_, ?_, ?_, ?_, ?_, ?_, ?_, ?_, ?_, ?_, ?_, ?_, trivial⟩
          · intro a wr D hJ hdn hpr hnd ho hp
            have g0 : ¬ D 0 := hnd
            have g1 : ¬ D 1 := fun h => g0 (hdn 1 _ h rfl ⟨0, .data⟩ (by simp) rfl)
            have g15 : ¬ D 15 := fun h => g1 (hdn 15 _ h rfl ⟨1, .data⟩ (by simp) rfl)
            have g17 : ¬ D 17 := fun h => g15 (hdn 17 _ h rfl ⟨15, .data⟩ (by simp) rfl)
            have hD := (hJ.1 g15).2.2
            have h := ho 7 (unwritten_dst (by kernel_rfl))
            have h : a.tmps.getD 7 undef = .pointer (some ⟨gs, 0, none⟩) := h
            rw [Array.getD_eq_getD_getElem?] at h
            unfold Oper.wp
            simp [go_sem, h]
            exact After3.mk _ rfl (hJ.keep 0 (by decide) g17 (fun _ h => h)) (fun _ _ _ h => h) (.of rfl (by decide))
          · intro a wr D hJ hdn hpr hnd ho hp
            have g1 : ¬ D 1 := hnd
            have g15 : ¬ D 15 := fun h => g1 (hdn 15 _ h rfl ⟨1, .data⟩ (by simp) rfl)
            have g17 : ¬ D 17 := fun h => g15 (hdn 17 _ h rfl ⟨15, .data⟩ (by simp) rfl)
            have hD := (hJ.1 g15).2.2
            have h := (hp ⟨0, .data⟩ (by simp) _ 134 rfl rfl rfl).typed (by decide)
            have h : a.tmps.getD 134 undef = .pointer (some ⟨gs, 5, none⟩) := h
            rw [Array.getD_eq_getD_getElem?] at h
            have hc : wr.cell? ⟨gs, 5, none⟩ = some (.slice a2 s.fixs.length c2) := hD.sec.cell 5
            unfold Oper.wp
            simp [go_sem, h, hc]
            exact After3.mk _ rfl (hJ.keep 1 (by decide) g17 (fun _ h => h)) (fun _ _ _ h => h) (.of rfl (by decide))
          · intro a wr D hJ hdn hpr hnd ho hp
            have g2 : ¬ D 2 := hnd
            have g3 : ¬ D 3 := fun h => g2 (hdn 3 _ h rfl ⟨2, .data⟩ (by simp) rfl)
            have g6 : ¬ D 6 := fun h => g3 (hdn 6 _ h rfl ⟨3, .data⟩ (by simp) rfl)
            have g7 : ¬ D 7 := fun h => g6 (hdn 7 _ h rfl ⟨6, .data⟩ (by simp) rfl)
            have g13 : ¬ D 13 := fun h => g7 (hdn 13 _ h rfl ⟨7, .data⟩ (by simp) rfl)
            have g14 : ¬ D 14 := fun h => g13 (hdn 14 _ h rfl ⟨13, .data⟩ (by simp) rfl)
            have g15 : ¬ D 15 := fun h => g14 (hdn 15 _ h rfl ⟨14, .data⟩ (by simp) rfl)
            have g17 : ¬ D 17 := fun h => g15 (hdn 17 _ h rfl ⟨15, .data⟩ (by simp) rfl)
            have hD := (hJ.1 g15).2.2
            have h := ho 1 (unwritten_dst (by kernel_rfl))
            exact wp_move' rfl (After3.mk _ rfl (hJ.keep 2 (by decide) g17 (fun _ h => h)) (fun _ _ _ h => h) (.of h (by decide)))
          · intro a wr D hJ hdn hpr hnd ho hp
            have g3 : ¬ D 3 := hnd
            have g6 : ¬ D 6 := fun h => g3 (hdn 6 _ h rfl ⟨3, .data⟩ (by simp) rfl)
            have g7 : ¬ D 7 := fun h => g6 (hdn 7 _ h rfl ⟨6, .data⟩ (by simp) rfl)
            have g13 : ¬ D 13 := fun h => g7 (hdn 13 _ h rfl ⟨7, .data⟩ (by simp) rfl)
            have g14 : ¬ D 14 := fun h => g13 (hdn 14 _ h rfl ⟨13, .data⟩ (by simp) rfl)
            have g15 : ¬ D 15 := fun h => g14 (hdn 15 _ h rfl ⟨14, .data⟩ (by simp) rfl)
            have g17 : ¬ D 17 := fun h => g15 (hdn 17 _ h rfl ⟨15, .data⟩ (by simp) rfl)
            have hD := (hJ.1 g15).2.2
            have h := (hp ⟨2, .data⟩ (by simp) _ 136 rfl rfl rfl).typed (by decide)
            have h : a.tmps.getD 136 undef = .int .i64 many := h
            rw [Array.getD_eq_getD_getElem?] at h
            have hlt := hD.rd.lt
            unfold Oper.wp
            simp [go_sem, h]
            exact After3.mk _ rfl (hJ.keep 3 (by decide) g17 (fun _ h => h.alloc _)) (fun j u hj h => h.grown (by rintro rfl; exact g15 hj.1) (World.grownBy_alloc wr _ _)) (.of ⟨wr.heap.size, _, [0, -1, many], rfl, hlt, Has.new _ _ _, rfl, rfl, by intro z hz; simp at hz; omega⟩ (by decide))
          · intro a wr D hJ hdn hpr hnd ho hp
            have g4 : ¬ D 4 := hnd
            have g5 : ¬ D 5 := fun h => g4 (hdn 5 _ h rfl ⟨4, .data⟩ (by simp) rfl)
            have g6 : ¬ D 6 := fun h => g5 (hdn 6 _ h rfl ⟨5, .data⟩ (by simp) rfl)
            have g7 : ¬ D 7 := fun h => g6 (hdn 7 _ h rfl ⟨6, .data⟩ (by simp) rfl)
            have g13 : ¬ D 13 := fun h => g7 (hdn 13 _ h rfl ⟨7, .data⟩ (by simp) rfl)
            have g14 : ¬ D 14 := fun h => g13 (hdn 14 _ h rfl ⟨13, .data⟩ (by simp) rfl)
            have g15 : ¬ D 15 := fun h => g14 (hdn 15 _ h rfl ⟨14, .data⟩ (by simp) rfl)
            have g17 : ¬ D 17 := fun h => g15 (hdn 17 _ h rfl ⟨15, .data⟩ (by simp) rfl)
            have hD := (hJ.1 g15).2.2
            have h := ho 0 (unwritten_dst (by kernel_rfl))
            exact wp_move' rfl (After3.mk _ rfl (hJ.keep 4 (by decide) g17 (fun _ h => h)) (fun _ _ _ h => h) (.of h (by decide)))
          · intro a wr D hJ hdn hpr hnd ho hp
            have g5 : ¬ D 5 := hnd
            have g6 : ¬ D 6 := fun h => g5 (hdn 6 _ h rfl ⟨5, .data⟩ (by simp) rfl)
            have g7 : ¬ D 7 := fun h => g6 (hdn 7 _ h rfl ⟨6, .data⟩ (by simp) rfl)
            have g13 : ¬ D 13 := fun h => g7 (hdn 13 _ h rfl ⟨7, .data⟩ (by simp) rfl)
            have g14 : ¬ D 14 := fun h => g13 (hdn 14 _ h rfl ⟨13, .data⟩ (by simp) rfl)
            have g15 : ¬ D 15 := fun h => g14 (hdn 15 _ h rfl ⟨14, .data⟩ (by simp) rfl)
            have g17 : ¬ D 17 := fun h => g15 (hdn 17 _ h rfl ⟨15, .data⟩ (by simp) rfl)
            have hD := (hJ.1 g15).2.2
            have g10 : ¬ D 10 := fun h => g5 (hdn 10 _ h rfl ⟨5, .chain⟩ (by simp) rfl)
            have h := (hp ⟨4, .data⟩ (by simp) _ 138 rfl rfl rfl).typed (by decide)
            have h : a.tmps.getD 138 undef = .pointer (some ⟨g, 0, none⟩) := h
            rw [Array.getD_eq_getD_getElem?] at h
            have hD0 := (hJ.1 g15).1 g5
            unfold Oper.wp
            simp [go_sem, h]
            refine (pick_any wr B g _ 3 hD0.rd (by omega) (by omega) (by omega)).mono ?_
            rintro e w' ⟨x, rfl, x0, x1, hr', hg'⟩
            have hN := hD0.pick hgl hr' hg'
            exact After3.mk _ rfl ⟨fun _ => ⟨fun e => absurd (.inl rfl) e, fun _ => hN, hN.more (by omega)⟩, fun e => absurd (e.resolve_left (by decide)) g17⟩ (fun j u hj h => h.grown (by rintro rfl; exact g15 hj.1) hg') (.of ⟨x, rfl, x0, x1⟩ (by decide))
          · intro a wr D hJ hdn hpr hnd ho hp
            have g6 : ¬ D 6 := hnd
            have g7 : ¬ D 7 := fun h => g6 (hdn 7 _ h rfl ⟨6, .data⟩ (by simp) rfl)
            have g13 : ¬ D 13 := fun h => g7 (hdn 13 _ h rfl ⟨7, .data⟩ (by simp) rfl)
            have g14 : ¬ D 14 := fun h => g13 (hdn 14 _ h rfl ⟨13, .data⟩ (by simp) rfl)
            have g15 : ¬ D 15 := fun h => g14 (hdn 15 _ h rfl ⟨14, .data⟩ (by simp) rfl)
            have g17 : ¬ D 17 := fun h => g15 (hdn 17 _ h rfl ⟨15, .data⟩ (by simp) rfl)
            have hD := (hJ.1 g15).2.2
            have hs := (hp ⟨3, .data⟩ (by simp) _ 137 rfl rfl rfl).typed (by decide)
            have h := (hp ⟨5, .data⟩ (by simp) _ 139 rfl rfl rfl).typed (by decide)
            obtain ⟨b, cs, zs, hs, hgb, hh, hcs, hzl, hz⟩ := hs
            obtain ⟨x, hx, x0, x1⟩ := h
            obtain ⟨i, rfl⟩ := Int.eq_ofNat_of_zero_le x0
            obtain ⟨z, hc, z0, z1⟩ := lit_read zs (-1) (7) hh hcs hz i (by omega)
            rw [Array.getD_eq_getD_getElem?] at hs hx
            have hi' : (i : Int) < 3 := by omega
            unfold Oper.wp
            simp [go_sem, hs, hx, hi']
            exact After3.mk _ rfl (hJ.keep 6 (by decide) g17 (fun _ h => h)) (fun _ _ _ h => h) (.of ⟨b, i, z, rfl, hgb, hc, z0, z1⟩ (by decide))
          · intro a wr D hJ hdn hpr hnd ho hp
            have g7 : ¬ D 7 := hnd
            have g13 : ¬ D 13 := fun h => g7 (hdn 13 _ h rfl ⟨7, .data⟩ (by simp) rfl)
            have g14 : ¬ D 14 := fun h => g13 (hdn 14 _ h rfl ⟨13, .data⟩ (by simp) rfl)
            have g15 : ¬ D 15 := fun h => g14 (hdn 15 _ h rfl ⟨14, .data⟩ (by simp) rfl)
            have g17 : ¬ D 17 := fun h => g15 (hdn 17 _ h rfl ⟨15, .data⟩ (by simp) rfl)
            have hD := (hJ.1 g15).2.2
            have h := (hp ⟨6, .data⟩ (by simp) _ 140 rfl rfl rfl).typed (by decide)
            obtain ⟨b, i, z, hx, hgb, hc, z0, z1⟩ := h
            rw [Array.getD_eq_getD_getElem?] at hx
            unfold Oper.wp
            simp [go_sem, hx, hc]
            exact After3.mk _ rfl (hJ.keep 7 (by decide) g17 (fun _ h => h)) (fun _ _ _ h => h) (.of ⟨z, rfl, z0, z1⟩ (by decide))
          · intro a wr D hJ hdn hpr hnd ho hp
            have g8 : ¬ D 8 := hnd
            have g11 : ¬ D 11 := fun h => g8 (hdn 11 _ h rfl ⟨8, .data⟩ (by simp) rfl)
            have g12 : ¬ D 12 := fun h => g11 (hdn 12 _ h rfl ⟨11, .data⟩ (by simp) rfl)
            have g13 : ¬ D 13 := fun h => g12 (hdn 13 _ h rfl ⟨12, .data⟩ (by simp) rfl)
            have g14 : ¬ D 14 := fun h => g13 (hdn 14 _ h rfl ⟨13, .data⟩ (by simp) rfl)
            have g15 : ¬ D 15 := fun h => g14 (hdn 15 _ h rfl ⟨14, .data⟩ (by simp) rfl)
            have g17 : ¬ D 17 := fun h => g15 (hdn 17 _ h rfl ⟨15, .data⟩ (by simp) rfl)
            have hD := (hJ.1 g15).2.2
            have hlt := hD.rd.lt
            unfold Oper.wp
            simp [go_sem]
            exact After3.mk _ rfl (hJ.keep 8 (by decide) g17 (fun _ h => h.alloc _)) (fun j u hj h => h.grown (by rintro rfl; exact g15 hj.1) (World.grownBy_alloc wr _ _)) (.of ⟨wr.heap.size, _, [0, 1001], rfl, hlt, Has.new _ _ _, rfl, rfl, by decide⟩ (by decide))
          · intro a wr D hJ hdn hpr hnd ho hp
            have g9 : ¬ D 9 := hnd
            have g10 : ¬ D 10 := fun h => g9 (hdn 10 _ h rfl ⟨9, .data⟩ (by simp) rfl)
            have g11 : ¬ D 11 := fun h => g10 (hdn 11 _ h rfl ⟨10, .data⟩ (by simp) rfl)
            have g12 : ¬ D 12 := fun h => g11 (hdn 12 _ h rfl ⟨11, .data⟩ (by simp) rfl)
            have g13 : ¬ D 13 := fun h => g12 (hdn 13 _ h rfl ⟨12, .data⟩ (by simp) rfl)
            have g14 : ¬ D 14 := fun h => g13 (hdn 14 _ h rfl ⟨13, .data⟩ (by simp) rfl)
            have g15 : ¬ D 15 := fun h => g14 (hdn 15 _ h rfl ⟨14, .data⟩ (by simp) rfl)
            have g17 : ¬ D 17 := fun h => g15 (hdn 17 _ h rfl ⟨15, .data⟩ (by simp) rfl)
            have hD := (hJ.1 g15).2.2
            have h := ho 0 (unwritten_dst (by kernel_rfl))
            exact wp_move' rfl (After3.mk _ rfl (hJ.keep 9 (by decide) g17 (fun _ h => h)) (fun _ _ _ h => h) (.of h (by decide)))
          · intro a wr D hJ hdn hpr hnd ho hp
            have g10 : ¬ D 10 := hnd
            have g11 : ¬ D 11 := fun h => g10 (hdn 11 _ h rfl ⟨10, .data⟩ (by simp) rfl)
            have g12 : ¬ D 12 := fun h => g11 (hdn 12 _ h rfl ⟨11, .data⟩ (by simp) rfl)
            have g13 : ¬ D 13 := fun h => g12 (hdn 13 _ h rfl ⟨12, .data⟩ (by simp) rfl)
            have g14 : ¬ D 14 := fun h => g13 (hdn 14 _ h rfl ⟨13, .data⟩ (by simp) rfl)
            have g15 : ¬ D 15 := fun h => g14 (hdn 15 _ h rfl ⟨14, .data⟩ (by simp) rfl)
            have g17 : ¬ D 17 := fun h => g15 (hdn 17 _ h rfl ⟨15, .data⟩ (by simp) rfl)
            have hD := (hJ.1 g15).2.2
            have d5 : D 5 := hpr ⟨5, .chain⟩ (by simp) rfl
            have h := (hp ⟨9, .data⟩ (by simp) _ 143 rfl rfl rfl).typed (by decide)
            have h : a.tmps.getD 143 undef = .pointer (some ⟨g, 0, none⟩) := h
            rw [Array.getD_eq_getD_getElem?] at h
            have hD0 := (hJ.1 g15).2.1 g10
            unfold Oper.wp
            simp [go_sem, h]
            refine (pick_any wr B g _ 2 hD0.rd (by omega) (by omega) (by omega)).mono ?_
            rintro e w' ⟨x, rfl, x0, x1, hr', hg'⟩
            have hN := (hD0.pick hgl hr' hg').more (P' := P + 60 + 1 + 1 + 2) (by omega)
            exact After3.mk _ rfl ⟨fun _ => ⟨fun e => absurd (.inr d5) e, fun e => absurd (.inl rfl) e, hN⟩, fun e => absurd (e.resolve_left (by decide)) g17⟩ (fun j u hj h => h.grown (by rintro rfl; exact g15 hj.1) hg') (.of ⟨x, rfl, x0, x1⟩ (by decide))
          · intro a wr D hJ hdn hpr hnd ho hp
            have g11 : ¬ D 11 := hnd
            have g12 : ¬ D 12 := fun h => g11 (hdn 12 _ h rfl ⟨11, .data⟩ (by simp) rfl)
            have g13 : ¬ D 13 := fun h => g12 (hdn 13 _ h rfl ⟨12, .data⟩ (by simp) rfl)
            have g14 : ¬ D 14 := fun h => g13 (hdn 14 _ h rfl ⟨13, .data⟩ (by simp) rfl)
            have g15 : ¬ D 15 := fun h => g14 (hdn 15 _ h rfl ⟨14, .data⟩ (by simp) rfl)
            have g17 : ¬ D 17 := fun h => g15 (hdn 17 _ h rfl ⟨15, .data⟩ (by simp) rfl)
            have hD := (hJ.1 g15).2.2
            have hs := (hp ⟨8, .data⟩ (by simp) _ 142 rfl rfl rfl).typed (by decide)
            have h := (hp ⟨10, .data⟩ (by simp) _ 144 rfl rfl rfl).typed (by decide)
            obtain ⟨b, cs, zs, hs, hgb, hh, hcs, hzl, hz⟩ := hs
            obtain ⟨x, hx, x0, x1⟩ := h
            obtain ⟨i, rfl⟩ := Int.eq_ofNat_of_zero_le x0
            obtain ⟨z, hc, z0, z1⟩ := lit_read zs (0) (1002) hh hcs hz i (by omega)
            rw [Array.getD_eq_getD_getElem?] at hs hx
            have hi' : (i : Int) < 2 := by omega
            unfold Oper.wp
            simp [go_sem, hs, hx, hi']
            exact After3.mk _ rfl (hJ.keep 11 (by decide) g17 (fun _ h => h)) (fun _ _ _ h => h) (.of ⟨b, i, z, rfl, hgb, hc, z0, z1⟩ (by decide))
          · intro a wr D hJ hdn hpr hnd ho hp
            have g12 : ¬ D 12 := hnd
            have g13 : ¬ D 13 := fun h => g12 (hdn 13 _ h rfl ⟨12, .data⟩ (by simp) rfl)
            have g14 : ¬ D 14 := fun h => g13 (hdn 14 _ h rfl ⟨13, .data⟩ (by simp) rfl)
            have g15 : ¬ D 15 := fun h => g14 (hdn 15 _ h rfl ⟨14, .data⟩ (by simp) rfl)
            have g17 : ¬ D 17 := fun h => g15 (hdn 17 _ h rfl ⟨15, .data⟩ (by simp) rfl)
            have hD := (hJ.1 g15).2.2
            have h := (hp ⟨11, .data⟩ (by simp) _ 145 rfl rfl rfl).typed (by decide)
            obtain ⟨b, i, z, hx, hgb, hc, z0, z1⟩ := h
            rw [Array.getD_eq_getD_getElem?] at hx
            unfold Oper.wp
            simp [go_sem, hx, hc]
            exact After3.mk _ rfl (hJ.keep 12 (by decide) g17 (fun _ h => h)) (fun _ _ _ h => h) (.of ⟨z, rfl, z0, z1⟩ (by decide))
          · intro a wr D hJ hdn hpr hnd ho hp
            have g13 : ¬ D 13 := hnd
            have g14 : ¬ D 14 := fun h => g13 (hdn 14 _ h rfl ⟨13, .data⟩ (by simp) rfl)
            have g15 : ¬ D 15 := fun h => g14 (hdn 15 _ h rfl ⟨14, .data⟩ (by simp) rfl)
            have g17 : ¬ D 17 := fun h => g15 (hdn 17 _ h rfl ⟨15, .data⟩ (by simp) rfl)
            have hD := (hJ.1 g15).2.2
            have h7 := (hp ⟨7, .data⟩ (by simp) _ 141 rfl rfl rfl).typed (by decide)
            have h12 := (hp ⟨12, .data⟩ (by simp) _ 146 rfl rfl rfl).typed (by decide)
            obtain ⟨x7, hx7, l7, u7⟩ := h7
            obtain ⟨x12, hx12, l12, u12⟩ := h12
            rw [Array.getD_eq_getD_getElem?] at hx7 hx12
            have hfx : IsFx (.agg #[.int .i64 0, .int .i64 1, .int .i64 x7, .int .i64 x12]) := ⟨⟨0, 1, x7, x12⟩, ⟨by show (-10 : Int) ≤ 0; omega, by show (0 : Int) ≤ 100; omega, by show (-10 : Int) ≤ 1; omega, by show (1 : Int) ≤ 100; omega, by show (-10 : Int) ≤ x7; omega, by show x7 ≤ 100; omega, by show (-2000 : Int) ≤ x12; omega, by show x12 ≤ 2000; omega⟩, rfl⟩
            unfold Oper.wp
            simp [go_sem, hx7, hx12]
            exact After3.mk _ rfl (hJ.keep 13 (by decide) g17 (fun _ h => h)) (fun _ _ _ h => h) hfx
          · intro a wr D hJ hdn hpr hnd ho hp
            have g14 : ¬ D 14 := hnd
            have g15 : ¬ D 15 := fun h => g14 (hdn 15 _ h rfl ⟨14, .data⟩ (by simp) rfl)
            have g17 : ¬ D 17 := fun h => g15 (hdn 17 _ h rfl ⟨15, .data⟩ (by simp) rfl)
            have hD := (hJ.1 g15).2.2
            have h13 := hp ⟨13, .data⟩ (by simp) _ 147 rfl rfl rfl
            obtain ⟨f, hf, hv⟩ : IsFx (a.tmps.getD 147 undef) := h13
            rw [Array.getD_eq_getD_getElem?] at hv
            have hlt := hD.rd.lt
            unfold Oper.wp
            simp [go_sem, hv]
            exact After3.mk _ rfl (hJ.keep 14 (by decide) g17 (fun _ h => h.alloc _)) (fun j u hj h => h.grown (by rintro rfl; exact g15 hj.1) (World.grownBy_alloc wr _ _)) (show RowFx g _ _ from ⟨wr.heap.size, f, hf, hlt, rfl, Has.new _ _ _⟩)
          · intro a wr D hJ hdn hpr hnd ho hp
            have g15 : ¬ D 15 := hnd
            have g17 : ¬ D 17 := fun h => g15 (hdn 17 _ h rfl ⟨15, .data⟩ (by simp) rfl)
            have hD := (hJ.1 g15).2.2
            have h1 := (hp ⟨1, .data⟩ (by simp) _ 135 rfl rfl rfl).typed (by decide)
            have h1 : a.tmps.getD 135 undef = .slice a2 s.fixs.length c2 := h1
            obtain ⟨b, f, hf, hgb, hx, hh⟩ : RowFx g wr (a.tmps.getD 148 undef) := hp ⟨14, .data⟩ (by simp) _ 148 rfl rfl rfl
            refine wp_append_own wr (.tmp 135) (.tmp 148) 40 rfl w.heap.size 119 i0 (.agg #[.int .i64 0, .int .i64 0, .int .i64 0, .int .i64 0]) 4 32 Try.underlying40 hi hq0 hq1 hq2 rfl (by decide) _ _ _ h1 hD.own2 ⟨b, 0, none⟩ 1 1 [.int .i64 f.pl, .int .i64 f.kind, .int .i64 f.to, .int .i64 f.add] hx rfl (fun j u hj => ?_) (by intro u hu; simp at hu; rcases hu with rfl | rfl | rfl | rfl <;> rfl) (by unfold maxLen; omega) (by omega) hD.grown.size (fun v' w' h2 h3 _ => ?_)
            · rw [addr_row, hh.cell j]
              simpa using hj
            obtain ⟨b3, d3, rfl, e5, f5, hM⟩ := hD.app hgl h2 h3 hn3 hf
            refine After3.mk _ rfl ⟨fun e => absurd (.inl rfl) e, fun e => absurd (e.resolve_left (by decide)) g17⟩ (fun j u hj h => ?_) (show MidFx w B g gs (P + 60 + 1 + 1 + 2) s a1 c1 a2 c2 w' _ from ⟨b3, d3, f, rfl, e5, f5, hM⟩)
            have d14 : D 14 := hpr ⟨14, .data⟩ (by simp) rfl
            have d13 : D 13 := hdn 14 _ d14 rfl ⟨13, .data⟩ (by simp) rfl
            have d7 : D 7 := hdn 13 _ d13 rfl ⟨7, .data⟩ (by simp) rfl
            have d12 : D 12 := hdn 13 _ d13 rfl ⟨12, .data⟩ (by simp) rfl
            have d6 : D 6 := hdn 7 _ d7 rfl ⟨6, .data⟩ (by simp) rfl
            have d11 : D 11 := hdn 12 _ d12 rfl ⟨11, .data⟩ (by simp) rfl
            match j, hj, h with
            | 3, hj, _ => exact (not_needed' [6] (by kernel_rfl) hj (by simp [d6]) (by simp)).elim
            | 6, hj, _ => exact (not_needed' [7] (by kernel_rfl) hj (by simp [d7]) (by simp)).elim
            | 8, hj, _ => exact (not_needed' [11] (by kernel_rfl) hj (by simp [d11]) (by simp)).elim
            | 11, hj, _ => exact (not_needed' [12] (by kernel_rfl) hj (by simp [d12]) (by simp)).elim
            | 14, hj, _ => exact (not_needed' [15] (by kernel_rfl) hj (by simp) (by simp)).elim
            | 15, hj, _ => exact absurd hj.1 g15
            | 0, _, h | 1, _, h | 2, _, h | 4, _, h | 5, _, h | 7, _, h | 9, _, h | 10, _, h | 12, _, h | 13, _, h | 16, _, h | 17, _, h => exact h
            | j + 18, hj, _ => exact FxR.of (v := u) (by show Ty.has g (List.getD _ (j + 18) .any) w' u; rw [List.getD_eq_getElem?_getD, List.getElem?_eq_none (by simp [fxTys])]; trivial) (by omega)
          · intro a wr D hJ hdn hpr hnd ho hp
            have g17 : ¬ D 17 := fun h => hnd (hdn 17 _ h rfl ⟨16, .data⟩ (by simp) rfl)
            have h := ho 7 (unwritten_dst (by kernel_rfl))
            have h : a.tmps.getD 7 undef = .pointer (some ⟨gs, 0, none⟩) := h
            rw [Array.getD_eq_getD_getElem?] at h
            unfold Oper.wp
            simp [go_sem, h]
            exact After3.mk _ rfl (hJ.keep 16 (by decide) g17 (fun _ h => h)) (fun _ _ _ h => h) (.of rfl (by decide))
          · intro a wr D hJ hdn hpr hnd ho hp
            have d15 : D 15 := hpr ⟨15, .data⟩ (by simp) rfl
            have d16 : D 16 := hpr ⟨16, .data⟩ (by simp) rfl
            have h16 := (hp ⟨16, .data⟩ (by simp) _ 150 rfl rfl rfl).typed (by decide)
            have h16 : a.tmps.getD 150 undef = .pointer (some ⟨gs, 5, none⟩) := h16
            obtain ⟨b2, d2, f, hv, e5, f5, hM⟩ : MidFx w B g gs (P + 60 + 1 + 1 + 2) s a1 c1 a2 c2 wr (a.tmps.getD 149 undef) := hp ⟨15, .data⟩ (by simp) _ 149 rfl rfl rfl
            rw [hv] at hM
            rw [Array.getD_eq_getD_getElem?] at h16 hv
            have d14 : D 14 := hdn 15 _ d15 rfl ⟨14, .data⟩ (by simp) rfl
            have d13 : D 13 := hdn 14 _ d14 rfl ⟨13, .data⟩ (by simp) rfl
            have d7 : D 7 := hdn 13 _ d13 rfl ⟨7, .data⟩ (by simp) rfl
            have d12 : D 12 := hdn 13 _ d13 rfl ⟨12, .data⟩ (by simp) rfl
            have d6 : D 6 := hdn 7 _ d7 rfl ⟨6, .data⟩ (by simp) rfl
            have d11 : D 11 := hdn 12 _ d12 rfl ⟨11, .data⟩ (by simp) rfl
            have HM := hidden hM
            clear hM
            unfold Oper.wp
            simp [go_sem, h16, hv, e5, f5]
            refine After3.mk undef rfl ⟨fun e => absurd (.inr d15) e, fun _ => ⟨_, b2, d2, HM.out⟩⟩ (fun j u hj h => ?_) (.of trivial (by decide))
            match j, hj, h with
            | 3, hj, _ => exact (not_needed' [6] (by kernel_rfl) hj (by simp [d6]) (by simp)).elim
            | 6, hj, _ => exact (not_needed' [7] (by kernel_rfl) hj (by simp [d7]) (by simp)).elim
            | 8, hj, _ => exact (not_needed' [11] (by kernel_rfl) hj (by simp [d11]) (by simp)).elim
            | 11, hj, _ => exact (not_needed' [12] (by kernel_rfl) hj (by simp [d12]) (by simp)).elim
            | 14, hj, _ => exact (not_needed' [15] (by kernel_rfl) hj (by simp [d15]) (by simp)).elim
            | 15, hj, _ => exact (not_needed' [17] (by kernel_rfl) hj (by simp) (by simp)).elim
            | 0, _, h | 1, _, h | 2, _, h | 4, _, h | 5, _, h | 7, _, h | 9, _, h | 10, _, h | 12, _, h | 13, _, h | 16, _, h | 17, _, h => exact h
            | j + 18, hj, _ => exact FxR.of (v := u) (by show Ty.has g (List.getD _ (j + 18) .any) _ u; rw [List.getD_eq_getElem?_getD, List.getElem?_eq_none (by simp [fxTys])]; trivial) (by omega)
        · intro a' w' hgo
          obtain ⟨s', b2, d2, HM⟩ := hgo.world.2 (by rfl)
          have HM := hidden HM
          have hd := hgo.defers
          have hsz := hgo.size
          have ho := hgo.others
          clear hgo hDd D2
          obtain ⟨t, d⟩ := a'
          have hd' : d = [] := hd
          have hlit : t = #[t.getD 0 undef, t.getD 1 undef, t.getD 2 undef, t.getD 3 undef, t.getD 4 undef, t.getD 5 undef, t.getD 6 undef, t.getD 7 undef, t.getD 8 undef, t.getD 9 undef, t.getD 10 undef, t.getD 11 undef, t.getD 12 undef, t.getD 13 undef, t.getD 14 undef, t.getD 15 undef, t.getD 16 undef, t.getD 17 undef, t.getD 18 undef, t.getD 19 undef, t.getD 20 undef, t.getD 21 undef, t.getD 22 undef, t.getD 23 undef, t.getD 24 undef, t.getD 25 undef, t.getD 26 undef, t.getD 27 undef, t.getD 28 undef, t.getD 29 undef, t.getD 30 undef, t.getD 31 undef, t.getD 32 undef, t.getD 33 undef, t.getD 34 undef, t.getD 35 undef, t.getD 36 undef, t.getD 37 undef, t.getD 38 undef, t.getD 39 undef, t.getD 40 undef, t.getD 41 undef, t.getD 42 undef, t.getD 43 undef, t.getD 44 undef, t.getD 45 undef, t.getD 46 undef, t.getD 47 undef, t.getD 48 undef, t.getD 49 undef, t.getD 50 undef, t.getD 51 undef, t.getD 52 undef, t.getD 53 undef, t.getD 54 undef, t.getD 55 undef, t.getD 56 undef, t.getD 57 undef, t.getD 58 undef, t.getD 59 undef, t.getD 60 undef, t.getD 61 undef, t.getD 62 undef, t.getD 63 undef, t.getD 64 undef, t.getD 65 undef, t.getD 66 undef, t.getD 67 undef, t.getD 68 undef, t.getD 69 undef, t.getD 70 undef, t.getD 71 undef, t.getD 72 undef, t.getD 73 undef, t.getD 74 undef, t.getD 75 undef, t.getD 76 undef, t.getD 77 undef, t.getD 78 undef, t.getD 79 undef, t.getD 80 undef, t.getD 81 undef, t.getD 82 undef, t.getD 83 undef, t.getD 84 undef, t.getD 85 undef, t.getD 86 undef, t.getD 87 undef, t.getD 88 undef, t.getD 89 undef, t.getD 90 undef, t.getD 91 undef, t.getD 92 undef, t.getD 93 undef, t.getD 94 undef, t.getD 95 undef, t.getD 96 undef, t.getD 97 undef, t.getD 98 undef, t.getD 99 undef, t.getD 100 undef, t.getD 101 undef, t.getD 102 undef, t.getD 103 undef, t.getD 104 undef, t.getD 105 undef, t.getD 106 undef, t.getD 107 undef, t.getD 108 undef, t.getD 109 undef, t.getD 110 undef, t.getD 111 undef, t.getD 112 undef, t.getD 113 undef, t.getD 114 undef, t.getD 115 undef, t.getD 116 undef, t.getD 117 undef, t.getD 118 undef, t.getD 119 undef, t.getD 120 undef, t.getD 121 undef, t.getD 122 undef, t.getD 123 undef, t.getD 124 undef, t.getD 125 undef, t.getD 126 undef, t.getD 127 undef, t.getD 128 undef, t.getD 129 undef, t.getD 130 undef, t.getD 131 undef, t.getD 132 undef, t.getD 133 undef, t.getD 134 undef, t.getD 135 undef, t.getD 136 undef, t.getD 137 undef, t.getD 138 undef, t.getD 139 undef, t.getD 140 undef, t.getD 141 undef, t.getD 142 undef, t.getD 143 undef, t.getD 144 undef, t.getD 145 undef, t.getD 146 undef, t.getD 147 undef, t.getD 148 undef, t.getD 149 undef, t.getD 150 undef, t.getD 151 undef] := (arr_list t 152 hsz).trans (by rfl)
          have e0 : t.getD 0 undef = .pointer (some ⟨g, 0, none⟩) := ho 0 (unwritten_dst (by kernel_rfl))
          have e1 : t.getD 1 undef = .int .i64 many := ho 1 (unwritten_dst (by kernel_rfl))
          have e2 : t.getD 2 undef = .int .i64 n := ho 2 (unwritten_dst (by kernel_rfl))
          have e3 : t.getD 3 undef = undef := ho 3 (unwritten_dst (by kernel_rfl))
          have e4 : t.getD 4 undef = undef := ho 4 (unwritten_dst (by kernel_rfl))
          have e5 : t.getD 5 undef = undef := ho 5 (unwritten_dst (by kernel_rfl))
          have e6 : t.getD 6 undef = .pointer (some ⟨w.heap.size, 0, none⟩) := ho 6 (unwritten_dst (by kernel_rfl))
          have e7 : t.getD 7 undef = .pointer (some ⟨gs, 0, none⟩) := ho 7 (unwritten_dst (by kernel_rfl))
          have e8 : t.getD 8 undef = u8 := ho 8 (unwritten_dst (by kernel_rfl))
          have e9 : t.getD 9 undef = u9 := ho 9 (unwritten_dst (by kernel_rfl))
          have e10 : t.getD 10 undef = u10 := ho 10 (unwritten_dst (by kernel_rfl))
          have e11 : t.getD 11 undef = u11 := ho 11 (unwritten_dst (by kernel_rfl))
          have e12 : t.getD 12 undef = u12 := ho 12 (unwritten_dst (by kernel_rfl))
          have e13 : t.getD 13 undef = u13 := ho 13 (unwritten_dst (by kernel_rfl))
          have e14 : t.getD 14 undef = u14 := ho 14 (unwritten_dst (by kernel_rfl))
          have e15 : t.getD 15 undef = u15 := ho 15 (unwritten_dst (by kernel_rfl))
          have e16 : t.getD 16 undef = u16 := ho 16 (unwritten_dst (by kernel_rfl))
          have e17 : t.getD 17 undef = u17 := ho 17 (unwritten_dst (by kernel_rfl))
          have e18 : t.getD 18 undef = u18 := ho 18 (unwritten_dst (by kernel_rfl))
          have e19 : t.getD 19 undef = u19 := ho 19 (unwritten_dst (by kernel_rfl))
          have e20 : t.getD 20 undef = u20 := ho 20 (unwritten_dst (by kernel_rfl))
          have e21 : t.getD 21 undef = u21 := ho 21 (unwritten_dst (by kernel_rfl))
          have e22 : t.getD 22 undef = u22 := ho 22 (unwritten_dst (by kernel_rfl))
          have e23 : t.getD 23 undef = u23 := ho 23 (unwritten_dst (by kernel_rfl))
          have e24 : t.getD 24 undef = u24 := ho 24 (unwritten_dst (by kernel_rfl))
          have e25 : t.getD 25 undef = u25 := ho 25 (unwritten_dst (by kernel_rfl))
          have e26 : t.getD 26 undef = u26 := ho 26 (unwritten_dst (by kernel_rfl))
          have e27 : t.getD 27 undef = u27 := ho 27 (unwritten_dst (by kernel_rfl))
          have e28 : t.getD 28 undef = u28 := ho 28 (unwritten_dst (by kernel_rfl))
          have e29 : t.getD 29 undef = u29 := ho 29 (unwritten_dst (by kernel_rfl))
          have e30 : t.getD 30 undef = u30 := ho 30 (unwritten_dst (by kernel_rfl))
          have e31 : t.getD 31 undef = u31 := ho 31 (unwritten_dst (by kernel_rfl))
          have e32 : t.getD 32 undef = u32 := ho 32 (unwritten_dst (by kernel_rfl))
          have e33 : t.getD 33 undef = u33 := ho 33 (unwritten_dst (by kernel_rfl))
          have e34 : t.getD 34 undef = u34 := ho 34 (unwritten_dst (by kernel_rfl))
          have e35 : t.getD 35 undef = u35 := ho 35 (unwritten_dst (by kernel_rfl))
          have e36 : t.getD 36 undef = u36 := ho 36 (unwritten_dst (by kernel_rfl))
          have e37 : t.getD 37 undef = u37 := ho 37 (unwritten_dst (by kernel_rfl))
          have e38 : t.getD 38 undef = u38 := ho 38 (unwritten_dst (by kernel_rfl))
          have e39 : t.getD 39 undef = u39 := ho 39 (unwritten_dst (by kernel_rfl))
          have e40 : t.getD 40 undef = u40 := ho 40 (unwritten_dst (by kernel_rfl))
          have e41 : t.getD 41 undef = u41 := ho 41 (unwritten_dst (by kernel_rfl))
          have e42 : t.getD 42 undef = u42 := ho 42 (unwritten_dst (by kernel_rfl))
          have e43 : t.getD 43 undef = u43 := ho 43 (unwritten_dst (by kernel_rfl))
          have e44 : t.getD 44 undef = u44 := ho 44 (unwritten_dst (by kernel_rfl))
          have e45 : t.getD 45 undef = u45 := ho 45 (unwritten_dst (by kernel_rfl))
          have e46 : t.getD 46 undef = u46 := ho 46 (unwritten_dst (by kernel_rfl))
          have e47 : t.getD 47 undef = u47 := ho 47 (unwritten_dst (by kernel_rfl))
          have e48 : t.getD 48 undef = u48 := ho 48 (unwritten_dst (by kernel_rfl))
          have e49 : t.getD 49 undef = u49 := ho 49 (unwritten_dst (by kernel_rfl))
          have e50 : t.getD 50 undef = u50 := ho 50 (unwritten_dst (by kernel_rfl))
          have e51 : t.getD 51 undef = u51 := ho 51 (unwritten_dst (by kernel_rfl))
          have e52 : t.getD 52 undef = u52 := ho 52 (unwritten_dst (by kernel_rfl))
          have e53 : t.getD 53 undef = u53 := ho 53 (unwritten_dst (by kernel_rfl))
          have e54 : t.getD 54 undef = u54 := ho 54 (unwritten_dst (by kernel_rfl))
          have e55 : t.getD 55 undef = u55 := ho 55 (unwritten_dst (by kernel_rfl))
          have e56 : t.getD 56 undef = u56 := ho 56 (unwritten_dst (by kernel_rfl))
          have e57 : t.getD 57 undef = u57 := ho 57 (unwritten_dst (by kernel_rfl))
          have e58 : t.getD 58 undef = u58 := ho 58 (unwritten_dst (by kernel_rfl))
          have e59 : t.getD 59 undef = u59 := ho 59 (unwritten_dst (by kernel_rfl))
          have e60 : t.getD 60 undef = u60 := ho 60 (unwritten_dst (by kernel_rfl))
          have e61 : t.getD 61 undef = u61 := ho 61 (unwritten_dst (by kernel_rfl))
          have e62 : t.getD 62 undef = u62 := ho 62 (unwritten_dst (by kernel_rfl))
          have e63 : t.getD 63 undef = u63 := ho 63 (unwritten_dst (by kernel_rfl))
          have e64 : t.getD 64 undef = u64 := ho 64 (unwritten_dst (by kernel_rfl))
          have e65 : t.getD 65 undef = u65 := ho 65 (unwritten_dst (by kernel_rfl))
          have e66 : t.getD 66 undef = u66 := ho 66 (unwritten_dst (by kernel_rfl))
          have e67 : t.getD 67 undef = u67 := ho 67 (unwritten_dst (by kernel_rfl))
          have e68 : t.getD 68 undef = u68 := ho 68 (unwritten_dst (by kernel_rfl))
          have e69 : t.getD 69 undef = u69 := ho 69 (unwritten_dst (by kernel_rfl))
          have e70 : t.getD 70 undef = u70 := ho 70 (unwritten_dst (by kernel_rfl))
          have e71 : t.getD 71 undef = u71 := ho 71 (unwritten_dst (by kernel_rfl))
          have e72 : t.getD 72 undef = u72 := ho 72 (unwritten_dst (by kernel_rfl))
          have e73 : t.getD 73 undef = u73 := ho 73 (unwritten_dst (by kernel_rfl))
          have e74 : t.getD 74 undef = u74 := ho 74 (unwritten_dst (by kernel_rfl))
          have e75 : t.getD 75 undef = u75 := ho 75 (unwritten_dst (by kernel_rfl))
          have e76 : t.getD 76 undef = u76 := ho 76 (unwritten_dst (by kernel_rfl))
          have e77 : t.getD 77 undef = u77 := ho 77 (unwritten_dst (by kernel_rfl))
          have e78 : t.getD 78 undef = u78 := ho 78 (unwritten_dst (by kernel_rfl))
          have e79 : t.getD 79 undef = u79 := ho 79 (unwritten_dst (by kernel_rfl))
          have e80 : t.getD 80 undef = u80 := ho 80 (unwritten_dst (by kernel_rfl))
          have e81 : t.getD 81 undef = u81 := ho 81 (unwritten_dst (by kernel_rfl))
          have e82 : t.getD 82 undef = u82 := ho 82 (unwritten_dst (by kernel_rfl))
          have e83 : t.getD 83 undef = u83 := ho 83 (unwritten_dst (by kernel_rfl))
          have e84 : t.getD 84 undef = u84 := ho 84 (unwritten_dst (by kernel_rfl))
          have e85 : t.getD 85 undef = u85 := ho 85 (unwritten_dst (by kernel_rfl))
          have e86 : t.getD 86 undef = u86 := ho 86 (unwritten_dst (by kernel_rfl))
          have e87 : t.getD 87 undef = u87 := ho 87 (unwritten_dst (by kernel_rfl))
          have e88 : t.getD 88 undef = u88 := ho 88 (unwritten_dst (by kernel_rfl))
          have e89 : t.getD 89 undef = u89 := ho 89 (unwritten_dst (by kernel_rfl))
          have e90 : t.getD 90 undef = u90 := ho 90 (unwritten_dst (by kernel_rfl))
          have e91 : t.getD 91 undef = u91 := ho 91 (unwritten_dst (by kernel_rfl))
          have e92 : t.getD 92 undef = u92 := ho 92 (unwritten_dst (by kernel_rfl))
          have e93 : t.getD 93 undef = u93 := ho 93 (unwritten_dst (by kernel_rfl))
          have e94 : t.getD 94 undef = u94 := ho 94 (unwritten_dst (by kernel_rfl))
          have e95 : t.getD 95 undef = u95 := ho 95 (unwritten_dst (by kernel_rfl))
          have e96 : t.getD 96 undef = .pointer (some ⟨g, 0, none⟩) := ho 96 (unwritten_dst (by kernel_rfl))
          have e97 : t.getD 97 undef = .int .i64 n := ho 97 (unwritten_dst (by kernel_rfl))
          have e98 : t.getD 98 undef = .bool true := ho 98 (unwritten_dst (by kernel_rfl))
          rw [e0, e1, e2, e3, e4, e5, e6, e7, e8, e9, e10, e11, e12, e13, e14, e15, e16, e17, e18, e19, e20, e21, e22, e23, e24, e25, e26, e27, e28, e29, e30, e31, e32, e33, e34, e35, e36, e37, e38, e39, e40, e41, e42, e43, e44, e45, e46, e47, e48, e49, e50, e51, e52, e53, e54, e55, e56, e57, e58, e59, e60, e61, e62, e63, e64, e65, e66, e67, e68, e69, e70, e71, e72, e73, e74, e75, e76, e77, e78, e79, e80, e81, e82, e83, e84, e85, e86, e87, e88, e89, e90, e91, e92, e93, e94, e95, e96, e97, e98] at hlit
          clear hd hsz ho e0 e1 e2 e3 e4 e5 e6 e7 e8 e9 e10 e11 e12 e13 e14 e15 e16 e17 e18 e19 e20 e21 e22 e23 e24 e25 e26 e27 e28 e29 e30 e31 e32 e33 e34 e35 e36 e37 e38 e39 e40 e41 e42 e43 e44 e45 e46 e47 e48 e49 e50 e51 e52 e53 e54 e55 e56 e57 e58 e59 e60 e61 e62 e63 e64 e65 e66 e67 e68 e69 e70 e71 e72 e73 e74 e75 e76 e77 e78 e79 e80 e81 e82 e83 e84 e85 e86 e87 e88 e89 e90 e91 e92 e93 e94 e95 e96 e97 e98
          subst hd'
          have HT := hidden hlit
          clear hlit
          rw [HT.out]
          go_wp2_with fail
          go_meet
          exact ⟨s', a1, c1, b2, d2, fun e => absurd e hn0, HM.out.more (by omega)⟩
      have q4' : (x == 4) = false := by simpa using q4
      clear q0 q1 q2 q3 q4
      have hmk := fun W => run_make_row' (P := Try.prog) 22 5 (.int .u8 0) 1 Try.underlying22 Try.info_u8 rfl .i64 .i64 49 (by omega) (by omega) W
      simp at hmk
      have D3 := hidden (D2.out.alloc (.cells (madeCells #[.int .u8 0] 49) 5))
      have cl := D3.out.sec.cell 3
      have fl := D3.out.sec.free 3
      have hrow : (w2.alloc (.cells (madeCells #[.int .u8 0] 49) 5)).ownsRow w.heap.size 5 1 (.slice (some ⟨w2.heap.size, 0, none⟩) (List.replicate 49 (0 : Int)).length 49) (List.replicate 49 (0 : Int)).length ((List.replicate 49 (0 : Int)).map (Value.int .u8)) :=
        ⟨by simp, .inr ⟨w2.heap.size, 49, _, by simp, D2.out.grown.size, Has.new _ _ _, by simp, by unfold maxLen; omega, by simp [madeCells], by kernel_rfl⟩⟩
      have k := D3.out.small
      have HF := hidden (D3.out.bytes hgl hrow ⟨k.name, k.kind0, k.kind1, k.align0, k.align1, k.size0, k.size1, by show (List.replicate 49 (0 : Int)).length ≤ 49; simp, by intro u hu; have := List.eq_of_mem_replicate hu; subst this; rfl, k.count, k.fixs⟩)
      clear D3 D2 k hrow
      go_wp2_with fail
      go_meet
      exact ⟨_, _, _, a2, c2, fun e => absurd e hn0, HF.out.more (by omega)⟩
    case rest =>
      obtain ⟨s, a1, c1, a2, c2, hz0, D⟩ := hcut
      have HS := hidden D.out.sec
      have HR := hidden D.out.res
      have hne : w.heap.size ≠ gs := by have := D.out.high; omega
      have z0 : wc.cell? ⟨gs, 0, none⟩ = some (.string s.name) := HS.out.cell 0
      have z1 : wc.cell? ⟨gs, 1, none⟩ = some (.int .i64 s.kind) := HS.out.cell 1
      have z2 : wc.cell? ⟨gs, 2, none⟩ = some (.int .i64 s.align) := HS.out.cell 2
      have z3 : wc.cell? ⟨gs, 3, none⟩ = some (.slice a1 s.bytes.length c1) := HS.out.cell 3
      have z4 : wc.cell? ⟨gs, 4, none⟩ = some (.int .i64 s.size) := HS.out.cell 4
      have z5 : wc.cell? ⟨gs, 5, none⟩ = some (.slice a2 s.fixs.length c2) := HS.out.cell 5
      have y0 : wc.cell? ⟨w.heap.size, 0, none⟩ = some (.string ⟨#[]⟩) := HR.out.cell 0
      have y1 : wc.cell? ⟨w.heap.size, 1, none⟩ = some (.int .i64 0) := HR.out.cell 1
      have y2 : wc.cell? ⟨w.heap.size, 2, none⟩ = some (.int .i64 0) := HR.out.cell 2
      have y3 : wc.cell? ⟨w.heap.size, 3, none⟩ = some (.slice none 0 0) := HR.out.cell 3
      have y4 : wc.cell? ⟨w.heap.size, 4, none⟩ = some (.int .i64 0) := HR.out.cell 4
      have y5 : wc.cell? ⟨w.heap.size, 5, none⟩ = some (.slice none 0 0) := HR.out.cell 5
      have f0 := HR.out.free 0
      have f1 := HR.out.free 1
      have f2 := HR.out.free 2
      have f3 := HR.out.free 3
      have f4 := HR.out.free 4
      have f5 := HR.out.free 5
      go_wp2_with fail
      have HF : Has ((((((wc.setCell ⟨w.heap.size, 0, none⟩ (.string s.name)).setCell ⟨w.heap.size, 1, none⟩ (.int .i64 s.kind)).setCell ⟨w.heap.size, 2, none⟩ (.int .i64 s.align)).setCell ⟨w.heap.size, 3, none⟩ (.slice a1 s.bytes.length c1)).setCell ⟨w.heap.size, 4, none⟩ (.int .i64 s.size)).setCell ⟨w.heap.size, 5, none⟩ (.slice a2 s.fixs.length c2)) w.heap.size 42 #[.string s.name, .int .i64 s.kind, .int .i64 s.align, .slice a1 s.bytes.length c1, .int .i64 s.size, .slice a2 s.fixs.length c2] := ((((((HR.out.put 0 _).put 1 _).put 2 _).put 3 _).put 4 _).put 5 _)
      have HG : wc.grownBy ((((((wc.setCell ⟨w.heap.size, 0, none⟩ (.string s.name)).setCell ⟨w.heap.size, 1, none⟩ (.int .i64 s.kind)).setCell ⟨w.heap.size, 2, none⟩ (.int .i64 s.align)).setCell ⟨w.heap.size, 3, none⟩ (.slice a1 s.bytes.length c1)).setCell ⟨w.heap.size, 4, none⟩ (.int .i64 s.size)).setCell ⟨w.heap.size, 5, none⟩ (.slice a2 s.fixs.length c2)) (some w.heap.size) := (only_trans (only_trans (only_trans (only_trans (only_trans (only_put' (g := w.heap.size) 0 _) (only_put' (g := w.heap.size) 1 _)) (only_put' (g := w.heap.size) 2 _)) (only_put' (g := w.heap.size) 3 _)) (only_put' (g := w.heap.size) 4 _)) (only_put' (g := w.heap.size) 5 _))
      refine bodyPost_ret (results_cell_row rfl _ _ w.heap.size 42 #[.string s.name, .int .i64 s.kind, .int .i64 s.align, .slice a1 s.bytes.length c1, .int .i64 s.size, .slice a2 s.fixs.length c2] (0, 0) _ rfl HF Try.underlying42 rfl (by kernel_rfl)) rfl ?_
      obtain ⟨WF, hWF⟩ : ∃ q, ((((((wc.setCell ⟨w.heap.size, 0, none⟩ (.string s.name)).setCell ⟨w.heap.size, 1, none⟩ (.int .i64 s.kind)).setCell ⟨w.heap.size, 2, none⟩ (.int .i64 s.align)).setCell ⟨w.heap.size, 3, none⟩ (.slice a1 s.bytes.length c1)).setCell ⟨w.heap.size, 4, none⟩ (.int .i64 s.size)).setCell ⟨w.heap.size, 5, none⟩ (.slice a2 s.fixs.length c2)) = q := ⟨_, rfl⟩
      rw [hWF] at HF HG
      rw [hWF]
      clear hWF
      have o1 := D.out.own1.kept HG (row_apart D.out.own1 HR.out (by decide))
      have o2 := D.out.own2.kept HG (row_apart D.out.own2 HR.out (by decide))
      refine ⟨s, a1, c1, a2, c2, rfl, D.out.small, o1, o2, D.out.rd.grown HG (fun j hj => by injection hj with hj; have := D.out.rd.1; omega), ?_⟩
      exact ⟨⟨HG.os.trans D.out.grown.os, HG.tape.trans D.out.grown.tape, HG.output.trans D.out.grown.output, Nat.le_trans D.out.grown.size HG.size, fun i hi hne => (HG.block i (Nat.lt_of_lt_of_le hi D.out.grown.size) (fun e => by injection e with e; omega)).trans (D.out.grown.block i hi hne)⟩, hz0⟩

end Go.Proofs.Ytiocchmlmcoieaa

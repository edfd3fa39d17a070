/-
  Contracts of the draws of bytes. A region that draws its order, where what the world is asked to be hangs on the operations that are done. Contract of the draw of a section.
-/
import Derived.Deep.Cut
import Derived.Deep.CutRange
import Derived.Deep.RegionHeld3
import Derived.IntWalk
import Derived.Test.YtdmdjlnpbmiadaaRegion
import Derived.Test.YtdmdjlnpbmiadaaBase
import Derived.Test.YtdmdjlnpbmiadaaSecs
import Derived.Test.YtdmdjlnpbmiadaaDrawN
import Derived.Test.YtdmdjlnpbmiadaaRowsX
/- Contracts of the draws of bytes. -/
namespace Go.Proofs.Ytdmdjlnpbmiadaa
open Go.RowKit

theorem lits_at_k (k : IntKind) (cs : Array Value) (zs : List Int) (hcs : cs = (zs.map (Value.int k)).toArray) (i : Nat) (hi : i < zs.length) : cs[i]? = some (.int k (zs.getD i 0)) := by
  subst hcs
  simp [List.getD, List.getElem?_eq_getElem hi]
theorem lit_read_k (k : IntKind) {t : TypeId} {w : World} {b : Nat} {cs : Array Value} (zs : List Int) (lo hi : Int) (h : Has w b t cs) (hcs : cs = (zs.map (Value.int k)).toArray) (hz : ∀ z ∈ zs, lo ≤ z ∧ z < hi) (i : Nat) (hi' : i < zs.length) :
    ∃ z, w.cell? ⟨b, i, none⟩ = some (.int k z) ∧ lo ≤ z ∧ z < hi :=
  ⟨_, (h.cell i).trans (lits_at_k k cs zs hcs i hi'), lits_in zs lo hi hz i hi'⟩

/-- What the draw of bytes leaves. -/
def DrawnBytes (w : World) (B g : Nat) (P most : Int) (e : Ending) (w' : World) : Prop :=
  ∃ (v : Value) (l : List Int), e = .returned v ∧ w'.ownsRow w.heap.size 5 1 v l.length (l.map (Value.int .u8)) ∧ (∀ x ∈ l, (Lit.int .u8 x).wf = true) ∧ (l.length : Int) ≤ most ∧
    Rd w' B g (P + 1 + 2 * most) ∧ w.grownBy w' (some g)
set_option maxHeartbeats 2000000 in
theorem l20Bytes_any (w : World) (B g : Nat) (P most : Int) (h : Rd w B g P) (hm : 0 ≤ most) (hm' : most ≤ 100000) (hP : P + 1 + 2 * most ≤ 1000000) :
    Calls Try.prog 19 #[.pointer (some ⟨g, 0, none⟩), .int .i64 most] w (DrawnBytes w B g P most) := by
  obtain ⟨i0, hi, hz0, hz1, hz2⟩ := info_parts Try.info_u8
  have hgs := h.lt
  have hBg : B ≤ g := h.1
  go_enter Try.func19, Try.ntmps19
  go_wp2_with fail
  refine (pick_any _ B g P (most + 1) (h.alloc _) (by omega) (by omega) (by omega)).mono ?_
  rintro e w1 ⟨x, rfl, hx0, hx1, hr1, hg1⟩
  obtain ⟨j0, rfl⟩ := Int.eq_ofNat_of_zero_le hx0
  have hown1 : w1.ownsRow w.heap.size 5 1 (.slice (some ⟨w.heap.size, 0, none⟩) 0 0) 0 (([] : List Int).map (Value.int .u8)) :=
    (World.ownsRow_lit (base := w.heap.size) (e := 5) (size := 1) w #[] 0 (Nat.le_refl _) (by unfold maxLen; omega) rfl).kept hg1 (.inr (by simp [Value.ownBlock]; omega))
  have hgw1 : w.grownBy w1 (some g) := only_trans (only_alloc (World.grownBy.refl w _) _) hg1
  clear h hg1
  go_wp2
  go_loopw [5, 6] (fun v k wr => ∃ (j : Nat) (l : List Int) (Q : Int), k = .int .i64 j ∧ (l.length : Int) + j ≤ most ∧ Q + 2 * j ≤ P + 1 + 2 * most ∧ Rd wr B g Q ∧
      wr.ownsRow w.heap.size 5 1 v l.length (l.map (Value.int .u8)) ∧ Hid (∀ x ∈ l, (Lit.int .u8 x).wf = true) ∧ w.grownBy wr (some g))
    (fun _ k _ => (intOf k).toNat)
  case atStart => exact ⟨j0, [], P + 1, rfl, by simp; omega, by omega, hr1, hown1, hidden (by simp), hgw1⟩
  case round =>
    obtain ⟨j, l, Q, rfl, hlj, hQ, hr, hown, hwf, hgw⟩ := hrel
    clear hr1 hown1 hgw1
    have hsz := hgw.size
    rcases Nat.eq_zero_or_pos j with rfl | hjp
    · go_wp2
      go_ret
      exact ⟨_, l, rfl, hown, hwf.out, by omega, hr.mono (by omega), hgw⟩
    · obtain ⟨j, rfl⟩ : ∃ j', j = j' + 1 := ⟨j - 1, by omega⟩
      go_wp2_with fail
      refine (pick_any _ B g Q 256 hr (by omega) (by omega) (by omega)).mono ?_
      rintro e w2 ⟨x, rfl, x0, x1, hr2, hg2⟩
      have hown2 := hown.kept hg2 (.inr (fun e => by have := (hown.lt _ e).1; omega))
      have hgw2 := only_trans hgw hg2
      have s2 := hr2.lt
      clear hr hown hgw hg2
      go_wp2_with fail
      refine (pick_any _ B g (Q + 1) 3 (hr2.alloc _) (by omega) (by omega) (by omega)).mono ?_
      rintro e w3 ⟨y, rfl, y0, y1, hr3, hg3⟩
      obtain ⟨i, rfl⟩ := Int.eq_ofNat_of_zero_le y0
      obtain ⟨z, hz, zlo, zhi⟩ := lit_read_k .u8 [x, 0, 255] 0 256 ((Has.new _ _ _).grown hg3 (by simp; omega)) rfl (by simp; omega) i (by simp; omega)
      have hown3 := (hown2.alloc _).kept hg3 (.inr (fun e => by have := (hown2.lt _ e).1; omega))
      have hgw3 := only_trans (only_alloc hgw2 _) hg3
      clear hr2 hown2 hgw2 hg3
      have HO := hidden hown3
      have hnb : Hid (∀ q, _ = some q → w.heap.size ≤ q) := fun q hq => (hown3.lt q hq).1
      have s3 := hgw3.size
      have hl2 : l.length + 1 ≤ 100000 := by omega
      go_wp2_with (at_builtin; refine wpList_append_own _ rfl _ _ 22 rfl w.heap.size 5 i0 (.int .u8 0) 1 1 Try.underlying22 hi hz0 hz1 hz2 rfl (by decide) _ _ _ rfl (HO.out.alloc _) ⟨w3.heap.size, 0, none⟩ 1 1 [.int .u8 z] rfl rfl ?c1 ?c2 ?c3 ?c4 ?c5 ?_)
      case c1 =>
        intro t u ht
        match t, ht with
        | 0, ht => simp at ht; subst ht; simp [Addr.add]
      case c2 => intro u hu; simp at hu; subst hu; rfl
      case c3 => unfold maxLen; omega
      case c4 => omega
      case c5 => simp; omega
      · intro v' w4 hown4 hgrow _
        have hown5 : w4.ownsRow w.heap.size 5 1 v' (l ++ [z]).length ((l ++ [z]).map (Value.int .u8)) := by simpa using hown4
        have hr5 := (hr3.alloc _).grown hgrow (fun q hq => ⟨by have := hnb.out q hq; omega, by have := hnb.out q hq; omega⟩)
        have hgw5 := only_own (only_alloc hgw3 _) hgrow (fun q hq => hnb.out q hq)
        have hwf5 : Hid (∀ x ∈ l ++ [z], (Lit.int .u8 x).wf = true) := fun x hx => by
          rcases List.mem_append.1 hx with h | h
          · exact hwf.out x h
          · simp at h; subst h; exact wf_u8.mpr ⟨zlo, zhi⟩
        clear hown4 hgrow hown3 HO hnb hwf hr3 hgw3 hz
        go_wp2
        go_roundw
        case rel => exact ⟨j, l ++ [z], _, by go_num, by simp; omega, by omega, hr5, hown5, hwf5, hgw5⟩
        case measure => simp [intOf]

/-- What the draw of bytes, a place and a width leaves. -/
def DrawnPlace (w : World) (e : Ending) (w' : World) : Prop :=
  ∃ (a : Option Addr) (c : Nat) (l : List Int) (n k : Int), e = .returned (.tuple #[.slice a l.length c, .int .i64 n, .int .i64 k]) ∧ l.length ≤ c ∧ Ints w' .u8 w'.heap.size a l ∧ l.length ≤ 9 ∧ -1 ≤ n ∧ n ≤ 8 ∧ 0 ≤ k ∧ k ≤ 5 ∧ Below w.heap.size w w'




































end Go.Proofs.Ytdmdjlnpbmiadaa
/- A region that draws its order, where what the world is asked to be hangs on the operations that are done. -/
namespace Go.Proofs.Ytdmdjlnpbmiadaa
open Go.RowKit

section
variable {P : Program} {ops : Array Oper} {Q : Exit → Act → World → Prop}

/-- Between two operations of a region that draws its order: the world is as 'J' says, and each value that was reckoned meets what 'R' asks of its operation. -/
structure Going3 (ops : Array Oper) (J : (Nat → Prop) → World → Prop) (R : Nat → World → Value → Prop) (a0 : Act) (listed : Array Bool) (a : Act) (w : World) : Prop where
  world : J (fun u => listed.getD u false = true) w
  defers : a.defers = a0.defers
  size : a.tmps.size = a0.tmps.size
  down : ∀ (u : Nat) (o : Oper), listed.getD u false = true → ops[u]? = some o → ∀ e ∈ o.after, Region.binds .any e = true → listed.getD e.on false = true
  others : ∀ s, (∀ (i : Nat) (o : Oper), ops[i]? = some o → o.dst ≠ some s) → a.tmps.getD s undef = a0.tmps.getD s undef
  done : ∀ (i : Nat) (o : Oper) (d : Nat), ops[i]? = some o → listed.getD i false = true → Needed ops (fun u => listed.getD u false = true) i → o.dst = some d → R i w (a.tmps.getD d undef)

/-- What one operation leaves. -/
def After3 (ops : Array Oper) (D : Nat → Prop) (J : (Nat → Prop) → World → Prop) (R : Nat → World → Value → Prop) (i : Nat) (d : Option Tmp) (a : Act) (w : World) (a' : Act) (w' : World) : Prop :=
  ∃ v, a' = a.put d v ∧ J (fun u => u = i ∨ D u) w' ∧ (∀ j u, NeededBy ops D i j → R j w u → R j w' u) ∧ R i w' v
theorem After3.mk {ops : Array Oper} {D : Nat → Prop} {J : (Nat → Prop) → World → Prop} {R : Nat → World → Value → Prop} {i : Nat} {d : Option Tmp} {a : Act} {w : World} {a' : Act} {w' : World} (v : Value) (h : a' = a.put d v) (hJ : J (fun u => u = i ∨ D u) w')
    (hs : ∀ j u, NeededBy ops D i j → R j w u → R j w' u) (hR : R i w' v) : After3 ops D J R i d a w a' w' := ⟨v, h, hJ, hs, hR⟩
/-- What is asked of one operation. -/
def StepsTo3 (P : Program) (ops : Array Oper) (J : (Nat → Prop) → World → Prop) (R : Nat → World → Value → Prop) (a0 : Act) (Q : Exit → Act → World → Prop) (i : Nat) (o : Oper) : Prop :=
  ∀ a w (D : Nat → Prop), J D w → (∀ (u : Nat) (o : Oper), D u → ops[u]? = some o → ∀ e ∈ o.after, Region.binds .any e = true → D e.on) → (∀ e ∈ o.after, Region.binds .any e = true → D e.on) → ¬ D i → (∀ s, (∀ (i : Nat) (o : Oper), ops[i]? = some o → o.dst ≠ some s) → a.tmps.getD s undef = a0.tmps.getD s undef) →
    (∀ e ∈ o.after, ∀ (oj : Oper) (d : Nat), ops[e.on]? = some oj → oj.dst = some d → e.ground = Ground.data → R e.on w (a.tmps.getD d undef)) →
    o.wp P a w (After3 ops D J R i o.dst a w) Q

theorem wp_region_typed3 {id : Nat} {a0 : Act} {w0 : World} (hm : P.follows .mixedOrders = true) (J : (Nat → Prop) → World → Prop) (R : Nat → World → Value → Prop)
    (hguard : ∀ (i : Nat) (o : Oper), ops[i]? = some o → o.guard = none)
    (hback : ∀ (i : Nat) (o : Oper), ops[i]? = some o → ∀ e ∈ o.after, Region.binds .any e = true → e.on < i)
    (hdst : ∀ (i j : Nat) (oi oj : Oper) (d : Nat), ops[i]? = some oi → ops[j]? = some oj → oi.dst = some d → oj.dst = some d → i = j)
    (hsz : ∀ (i : Nat) (o : Oper) (d : Nat), ops[i]? = some o → o.dst = some d → d < a0.tmps.size)
    (hJ : J (fun _ => False) w0.drew)
    (hstep : ∀ (i : Nat) (o : Oper), ops[i]? = some o → StepsTo3 P ops J R a0 Q i o)
    (hfin : ∀ a w, Going3 ops J R a0 (Array.replicate ops.size true) a w → Q .normal a w) :
    (Code.region id ops true).wp P Q a0 w0 := by
  have key : ∀ (fuel : Nat) (listed : Array Bool) (a : Act) (w : World), listed.size = ops.size → ((List.range ops.size).filter fun j => !listed.getD j true).length ≤ fuel → fuel ≤ ops.size → Going3 ops J R a0 listed a w →
      wpAny P .any ops Q fuel listed a w := by
    have last : ∀ (listed : Array Bool) (a : Act) (w : World), listed.size = ops.size → Region.ready .any ops listed = [] → Going3 ops J R a0 listed a w → Q .normal a w := by
      intro listed a w hs hr hg
      have all : ∀ i, i < ops.size → listed.getD i false = true := by
        intro i
        induction i using Nat.strongRecOn with
        | ind i ih =>
          intro hi
          rcases hb : listed.getD i false with _ | _
          · exfalso
            have hmem : i ∈ Region.ready .any ops listed := by
              unfold Region.ready
              simp only [List.mem_filter, List.mem_range, Bool.and_eq_true]
              refine ⟨hi, ?_, ?_⟩
              · have : listed.getD i true = listed.getD i false := by
                  simp [Array.getD_eq_getD_getElem?, Array.getElem?_eq_getElem (show i < listed.size by omega)]
                rw [this, hb]; rfl
              · rw [Array.getElem?_eq_getElem hi]
                simp only [Option.map_some, Option.getD_some, Array.all_eq_true]
                intro j hj
                rcases hbd : Region.binds .any (ops[i].after[j]) with _ | _
                · simp
                · have hlt := hback i ops[i] (Array.getElem?_eq_getElem hi) (ops[i].after[j]) (Array.getElem_mem hj) hbd
                  have := ih _ hlt (by omega)
                  simp [this]
            rw [hr] at hmem; simp at hmem
          · rfl
      have hD : (fun u => listed.getD u false = true) = (fun u => (Array.replicate ops.size true).getD u false = true) := by
        funext u
        apply propext
        by_cases hu : u < ops.size
        · simp [all u hu, Array.getD_eq_getD_getElem?, hu]
        · simp [Array.getD_eq_getD_getElem?, hu, hs]
      refine hfin a w ⟨hD ▸ hg.world, hg.defers, hg.size, ?_, hg.others, fun i o d ho _ hne hd => ?_⟩
      · intro u o _ ho e he hbd
        have hu : u < ops.size := by
          rcases Nat.lt_or_ge u ops.size with h | h
          · exact h
          · rw [Array.getElem?_eq_none h] at ho; cases ho
        have := hback u o ho e he hbd
        simp [Array.getD_eq_getD_getElem?, show e.on < ops.size by omega]
      have hi : i < ops.size := by
        rcases Nat.lt_or_ge i ops.size with h | h
        · exact h
        · rw [Array.getElem?_eq_none h] at ho; cases ho
      refine hg.done i o d ho (all i hi) ?_ hd
      rcases hne with h | ⟨u, hu, hnu⟩
      · exact .inl h
      · exfalso
        have hus : u < ops.size := by
          unfold users at hu
          simp only [List.mem_filter, List.mem_range] at hu
          exact hu.1
        simp [Array.getD_eq_getD_getElem?, hus] at hnu
    intro fuel
    induction fuel with
    | zero =>
      intro listed a w hs hn hfu hg
      have hr : Region.ready .any ops listed = [] := by
        have h0 : ((List.range ops.size).filter fun j => !listed.getD j true) = [] := List.eq_nil_of_length_eq_zero (by omega)
        unfold Region.ready
        rw [List.filter_eq_nil_iff] at h0 ⊢
        intro j hj hc
        exact h0 j hj (by simp only [Bool.and_eq_true] at hc; exact hc.1)
      exact ⟨hr, last listed a w hs hr hg⟩
    | succ fuel ih =>
      intro listed a w hs hn hfu hg
      refine ⟨fun hr => last listed a w hs hr hg, fun i hi => ?_⟩
      unfold Region.ready at hi
      simp only [List.mem_filter, List.mem_range, Bool.and_eq_true] at hi
      obtain ⟨hlt, hu, haf⟩ := hi
      have ho : ops[i]? = some ops[i] := Array.getElem?_eq_getElem hlt
      have hu' : listed.getD i true = false := by simpa using hu
      unfold wpOp
      rw [ho]
      have hw : Region.wanted ops[i] (yielded ops a.tmps) = true := by
        unfold Region.wanted; rw [hguard i _ ho]
      simp only [hw, if_true]
      have hpre : ∀ e ∈ ops[i].after, Region.binds .any e = true → listed.getD e.on false = true := by
        intro e he hbind
        rw [ho] at haf
        simp only [Option.map_some, Option.getD_some, Array.all_eq_true] at haf
        obtain ⟨k, hk, rfl⟩ := Array.getElem_of_mem he
        have := haf k hk
        simpa [hbind] using this
      have hfi : listed.getD i false ≠ true := by
        intro h
        have : listed.getD i true = listed.getD i false := by
          simp [Array.getD_eq_getD_getElem?, Array.getElem?_eq_getElem (show i < listed.size by omega)]
        rw [hu', h] at this; cases this
      have hset : ∀ u, (listed.setIfInBounds i true).getD u false = true ↔ u = i ∨ listed.getD u false = true := by
        intro u
        by_cases hui : i = u
        · subst hui
          simp [Array.getD_eq_getD_getElem?, hs, hlt]
        · have hne : ¬ u = i := fun e => hui e.symm
          simp [Array.getD_eq_getD_getElem?, hui, hne]
      refine Or.inl (Oper.wp_mono ?_ (hstep i _ ho a w (fun u => listed.getD u false = true) hg.world hg.down hpre hfi hg.others ?_))
      · rintro a' w' ⟨v, rfl, hJ', hst, hv⟩
        refine ih _ _ _ (by simp [hs]) (open_less hlt hs hu' hn) (by omega) ⟨(by have hD : (fun u => (listed.setIfInBounds i true).getD u false = true) = (fun u => u = i ∨ listed.getD u false = true) := (funext fun u => propext (hset u)); rw [hD]; exact hJ'), ?_, ?_, ?_, ?_, ?_⟩
        · rw [← hg.defers]; unfold Act.put; split <;> rfl
        · rw [← hg.size]; unfold Act.put; split <;> simp
        · intro u o hu2 hou e he hbd
          rw [hset] at hu2 ⊢
          rcases hu2 with rfl | hu2
          · rw [ho] at hou; injection hou with hou; subst hou
            exact .inr (hpre e he hbd)
          · exact .inr (hg.down u o hu2 hou e he hbd)
        · intro s hs'
          rw [← hg.others s hs']
          have := hs' i _ ho
          unfold Act.put
          split
          · rename_i d hd
            have hne : d ≠ s := fun e => this (by rw [hd, e])
            simp [Array.getD_eq_getD_getElem?, hne]
          · rfl
        · intro j oj d hoj hl hnd hd
          by_cases hji : i = j
          · subst hji
            rw [ho] at hoj; injection hoj with hoj
            rw [← hoj] at hd
            have hdz := hsz i _ d ho hd
            rw [← hg.size] at hdz
            rw [hd]
            simpa [Act.put, Array.getD_eq_getD_getElem?, Array.getElem?_setIfInBounds, hdz] using hv
          · have hl' : listed.getD j false = true := by
              simpa [Array.getD_eq_getD_getElem?, Array.getElem?_setIfInBounds, hji] using hl
            have hby : NeededBy ops (fun u => listed.getD u false = true) i j := by
              refine ⟨hl', ?_⟩
              rcases hnd with h | ⟨u, hu3, hnu⟩
              · exact .inl h
              · refine .inr ⟨u, hu3, ?_, ?_⟩
                · rintro rfl; exact hnu ((hset u).2 (.inl rfl))
                · intro h; exact hnu ((hset u).2 (.inr h))
            have hny : Needed ops (fun u => listed.getD u false = true) j := Or.imp (fun h => h) (fun ⟨u, h1, _, h2⟩ => ⟨u, h1, h2⟩) hby.2
            have hr := hst j _ hby (hg.done j oj d hoj hl' hny hd)
            have hne : ops[i].dst ≠ some d := fun e => hji (hdst i j _ _ d ho hoj e hd)
            have e : (a.put ops[i].dst v).tmps.getD d undef = a.tmps.getD d undef := by
              unfold Act.put
              split
              · rename_i d' hd'
                have : d' ≠ d := fun e => hne (by rw [hd', e])
                simp [Array.getD_eq_getD_getElem?, this]
              · rfl
            rw [e]; exact hr
      · intro e he oj d hoj hd hdata
        refine hg.done e.on oj d hoj (hpre e he (by rw [Region.binds, hdata])) (.inr ⟨i, ?_, hfi⟩) hd
        unfold users
        simp only [List.mem_filter, List.mem_range]
        refine ⟨hlt, ?_⟩
        rw [ho]
        simp only [Option.map_some, Option.getD_some, Array.any_eq_true]
        obtain ⟨k, hk, rfl⟩ := Array.getElem_of_mem he
        exact ⟨k, hk, by simp [hdata]⟩
  refine wp_region_any hm (key ops.size _ a0 w0.drew (by simp) ?_ (Nat.le_refl _) ⟨(by have hD : (fun u => (Array.replicate ops.size false).getD u false = true) = (fun _ => False) := (by funext u; apply propext; by_cases hu : u < ops.size <;> simp [Array.getD_eq_getD_getElem?, hu]); rw [hD]; exact hJ), rfl, rfl, fun u o hl => ?_, fun _ _ => rfl, fun i o d ho hl _ hd => ?_⟩)
  · exact Nat.le_trans (List.length_filter_le _ _) (by simp)
  · exfalso
    by_cases hu : u < ops.size <;> simp [Array.getD_eq_getD_getElem?, hu] at hl
  · exfalso
    by_cases hu : i < ops.size <;> simp [Array.getD_eq_getD_getElem?, hu] at hl
end
theorem wp_region_typed3_lit {P : Program} {l : List Oper} {Q : Exit → Act → World → Prop} {id : Nat} {a0 : Act} {w0 : World} (hm : P.follows .mixedOrders = true) (J : (Nat → Prop) → World → Prop) (R : Nat → World → Value → Prop)
    (hok : plainRegion l a0.tmps.size = true) (hJ : J (fun _ => False) w0.drew)
    (hstep : AllFrom (fun i o => StepsTo3 P l.toArray J R a0 Q i o) 0 l)
    (hfin : ∀ a w, Going3 l.toArray J R a0 (Array.replicate l.length true) a w → Q .normal a w) :
    (Code.region id l.toArray true).wp P Q a0 w0 := by
  unfold plainRegion at hok
  simp only [Bool.and_eq_true, decide_eq_true_eq] at hok
  obtain ⟨⟨⟨h1, h2⟩, h3⟩, h4⟩ := hok
  have get : ∀ (i : Nat) (o : Oper), l.toArray[i]? = some o → l[i]? = some o := fun i o h => by simpa using h
  refine wp_region_typed3 hm J R ?_ ?_ ?_ ?_ hJ ?_ (by simpa using hfin)
  · intro i o ho
    rw [List.all_eq_true] at h1
    have := h1 o (List.mem_of_getElem? (get i o ho))
    simpa using this
  · intro i o ho e he hbd
    rw [List.all_eq_true] at h2
    have := h2 (o, i) (by rw [List.mem_zipIdx_iff_getElem?]; exact get i o ho)
    simp only [Array.all_eq_true] at this
    obtain ⟨k, hk, rfl⟩ := Array.getElem_of_mem he
    have := this k hk
    rw [hbd] at this
    simpa using this
  · intro i j oi oj d hi hj di dj
    exact nodup_dst l h3 i j oi oj d (get i oi hi) (get j oj hj) di dj
  · intro i o d ho hd
    rw [List.all_eq_true] at h4
    have := h4 o (List.mem_of_getElem? (get i o ho))
    rw [hd] at this
    simpa using this
  · intro i o ho
    have := AllFrom.get l 0 hstep i o (get i o ho)
    rwa [Nat.zero_add] at this

end Go.Proofs.Ytdmdjlnpbmiadaa
/- Contract of the draw of a section. -/
namespace Go.Proofs.Ytdmdjlnpbmiadaa
open Go.RowKit

theorem odd_some (w : World) (B g : Nat) (P n : Int) (h : Rd w B g P) (hP : P ≤ 1000000) (hn : 0 ≤ n) (hn' : n ≤ 4294967296) :
    Calls Try.prog 25 #[.pointer (some ⟨g, 0, none⟩), .int .i64 n] w fun e w' => ∃ b : Bool, e = .returned (.bool b) ∧ (n = 0 → b = false) ∧ Rd w' B g (P + 1) ∧ w.grownBy w' (some g) := by
  by_cases hz : n = 0
  · have hfin : Hid (Rd w B g (P + 1) ∧ w.grownBy w (some g)) := ⟨h.mono (by omega), World.grownBy.refl w _⟩
    subst hz
    clear h
    go_enter Try.func25, Try.ntmps25
    go_wp2
    go_ret
    exact ⟨false, rfl, fun _ => rfl, hfin.out.1, hfin.out.2⟩
  · exact (odd_any w B g P n h hP hn hn').mono fun e w' ⟨b, he, hr, hg⟩ => ⟨b, he, fun e => absurd e hz, hr, hg⟩
/-- A fixup of small numbers. -/
def Fx.small (f : Fx) : Prop := -10 ≤ f.pl ∧ f.pl ≤ 100 ∧ -10 ≤ f.kind ∧ f.kind ≤ 100 ∧ -10 ≤ f.to ∧ f.to ≤ 100 ∧ -2000 ≤ f.add ∧ f.add ≤ 2000
structure Sx.small (s : Sx) : Prop where
  name : s.name.size ≤ 9
  kind0 : 0 ≤ s.kind
  kind1 : s.kind ≤ 4
  align0 : 0 ≤ s.align
  align1 : s.align ≤ 16
  size0 : -1 ≤ s.size
  size1 : s.size ≤ 49
  bytes : s.bytes.length ≤ 49
  wf : ∀ x ∈ s.bytes, (Lit.int .u8 x).wf = true
  count : s.fixs.length ≤ 4
  fixs : ∀ f ∈ s.fixs, f.small










section
variable {w W W' : World} {B g gs : Nat} {P P' : Int} {s : Sx} {a1 : Option Addr} {c1 : Nat} {a2 : Option Addr} {c2 : Nat}





































































end
theorem not_needed' {ops : Array Oper} {D : Nat → Prop} {i j : Nat} (us : List Nat) (hu : users ops j = us) (h : NeededBy ops D i j) (hall : ∀ u ∈ us, u = i ∨ D u) (hne : us ≠ []) : False := by
  obtain ⟨_, h⟩ := h
  rw [hu] at h
  rcases h with h | ⟨u, h1, h2, h3⟩
  · exact hne h
  · rcases hall u h1 with h | h
    · exact h2 h
    · exact h3 h
def IsFx (v : Value) : Prop := ∃ f : Fx, f.small ∧ v = .agg #[.int .i64 f.pl, .int .i64 f.kind, .int .i64 f.to, .int .i64 f.add]





def fxTys (g gs : Nat) (many : Int) (row : Value) : List Ty := [.val (.pointer (some ⟨gs, 5, none⟩)), .val row, .val (.int .i64 many), .lits 3 (-1) 7, .val (.pointer (some ⟨g, 0, none⟩)), .int 0 3, .cell (-1) 7, .int (-1) 7, .lits 2 0 1002, .val (.pointer (some ⟨g, 0, none⟩)), .int 0 2, .cell 0 1002, .int 0 1002, .any, .any, .any, .val (.pointer (some ⟨gs, 5, none⟩)), .any]





section
variable {w W W' : World} {B g gs : Nat} {P : Int} {s : Sx} {a1 : Option Addr} {c1 : Nat} {a2 : Option Addr} {c2 : Nat} {many : Int} {D : Nat → Prop}























end
























































































































































































































































































































































































































































































































































































































































































































































































































end Go.Proofs.Ytdmdjlnpbmiadaa

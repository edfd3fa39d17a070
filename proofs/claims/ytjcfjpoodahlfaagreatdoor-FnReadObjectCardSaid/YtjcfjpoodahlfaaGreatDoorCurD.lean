import Derived.Laws.MakeOwn
import Derived.Test.YtjcfjpoodahlfaaGreatDoorCurB
import Derived.Test.YtjcfjpoodahlfaaGreatDoorPlcI
namespace Go.Proofs.YtjcfjpoodahlfaaGreatDoor
open Go.RowKit
theorem Tryz.info_error : (Tryz.prog.info? 70).map (fun i => (i.zero, i.size, i.bytes)) = some (some .nilIface, 1, 16) := by kernel_rfl
def isErr : Value → Bool
  | .nilIface => false
  | _ => true
theorem isErr_of {b : Bool} {v : Value} (h : ErrV b v) : isErr v = b := by
  cases b
  · rw [show v = .nilIface from h]; rfl
  · obtain ⟨t, u, e⟩ := h; rw [e]; rfl
theorem any_take {es : List Value} {j : Nat} (h : j < es.length) : (es.take (j + 1)).any isErr = ((es.take j).any isErr || isErr es[j]) := by
  rw [List.take_succ_eq_append_getElem h, List.any_append]
  simp
theorem own_shape' {W : World} {base : Nat} {T : TypeId} {size : Nat} {v : Value} {n : Nat} {xs : List Value} (h : W.ownsRow base T size v n xs) : ∃ a c, v = .slice a n c := by
  rcases h.2 with ⟨rfl, h0⟩ | ⟨k, cap, cur, rfl, _⟩
  · exact ⟨none, 0, by rw [h0]⟩
  · exact ⟨_, _, rfl⟩
theorem row_apart' {W : World} {base : Nat} {T T' : TypeId} {size : Nat} {v : Value} {n : Nat} {xs : List Value} {b : Nat} {cs : Array Value} (ho : W.ownsRow base T size v n xs) (hh : Has W b T' cs) (hne : T ≠ T') : v.ownBlock = none ∨ v.ownBlock ≠ some b := by
  rcases ho.2 with ⟨rfl, _⟩ | ⟨k, cap, cur, rfl, _, hk, _⟩
  · exact .inl rfl
  · refine .inr fun e => ?_
    have e' : k = b := by simpa [Value.ownBlock] using e
    subst e'
    unfold Has at hh
    rw [hh] at hk
    injection hk with hk
    injection hk with _ h2
    exact hne h2.symm
structure Joi (W0 : World) (b : Nat) (W : World) (v : Value) (k : Nat) : Prop where
  below : Below W0.heap.size W0 W
  lo : W0.heap.size ≤ b
  has : Has W b 137 #[v]
  own : ∃ xs, W.ownsRow W0.heap.size 70 1 v k xs
set_option maxRecDepth 100000 in
set_option maxHeartbeats 4000000 in
theorem join_any (W0 : World) (g : Nat) (T : TypeId) (es : List Value) (hes : ∀ v ∈ es, v = .nilIface ∨ ∃ t u, v = .iface t u) (n : Nat) (hn : n = es.length) (hn4 : n ≤ 100) (h : Has W0 g T es.toArray) (cap : Nat) :
    Calls Tryz.prog 80 #[.slice (some ⟨g, 0, none⟩) n cap] W0 fun r w' => ∃ v, r = .returned v ∧ ErrV (es.any isErr) v ∧ Below W0.heap.size W0 w' := by
  obtain ⟨i0, hi0, hz0, hz1, hz2⟩ := info_parts Tryz.info_error
  have H := hidden h
  have HN := hidden hn
  have HES := hidden hes
  clear h hn hes
  go_enter Tryz.func80, Tryz.ntmps80
  go_wp2_with fail
  go_loopw [3, 11] (fun c i wr => ∃ j k : Nat, i = .int .i64 j ∧ c = .int .i64 k ∧ j ≤ n ∧ k ≤ j ∧ Hid (k = 0 ↔ (es.take j).any isErr = false) ∧ Hid (Below W0.heap.size W0 wr)) (fun _ i _ => n - (intOf i).toNat)
  case atStart => exact ⟨0, 0, rfl, rfl, Nat.zero_le _, Nat.le_refl _, (by show _ ↔ _; simp), Below.refl _ _⟩
  case round =>
    obtain ⟨j, k, rfl, rfl, hj, hk, hany, hb⟩ := hrel
    by_cases hlt : j < n
    · have hi : (j : Int) < (n : Int) := by omega
      have hjl : j < es.length := by rw [← HN.out]; exact hlt
      obtain ⟨v, hv⟩ : ∃ v, es[j] = v := ⟨_, rfl⟩
      have hc : wr.cell? ⟨g, j, none⟩ = some v := by
        have := (H.out.below hb.out H.out.lt).cell j
        rw [this]
        simp [List.getElem?_eq_getElem hjl, hv]
      have HA := hidden (any_take hjl)
      rw [hv] at HA
      rcases HES.out v (by rw [← hv]; exact List.getElem_mem hjl) with rfl | ⟨t, u, rfl⟩
      · have HR : Hid (k = 0 ↔ (es.take (j + 1)).any isErr = false) := by show _ ↔ _; rw [HA.out, hany.out]; simp [isErr]
        clear hv hjl HA hany
        go_wp2_with fail
        go_roundw
        case rel => exact ⟨j + 1, k, by go_num, rfl, by omega, by omega, HR, hb⟩
        case measure => simp [intOf]; omega
      · have HR : Hid (k + 1 = 0 ↔ (es.take (j + 1)).any isErr = false) := by show _ ↔ _; rw [HA.out]; simp [isErr]
        clear hv hjl HA hany
        go_wp2_with fail
        go_roundw
        case rel => exact ⟨j + 1, k + 1, by go_num, by go_num, by omega, by omega, HR, hb⟩
        case measure => simp [intOf]; omega
    · have hi : ¬ (j : Int) < (n : Int) := by omega
      have hall : es.take j = es := List.take_of_length_le (by rw [← HN.out]; omega)
      rw [hall] at hany
      by_cases h0 : k = 0
      · subst h0
        have HR : Hid (ErrV (es.any isErr) .nilIface) := by show ErrV _ _; rw [hany.out.1 rfl]; rfl
        clear hany hall
        go_wp2_with fail
        go_ret
        exact ⟨_, rfl, HR.out, hb.out⟩
      · have HTR : Hid (es.any isErr = true) := by
          show _ = _
          cases e : es.any isErr
          · exact absurd (hany.out.2 e) h0
          · rfl
        have hk0 : ((k : Int) == 0) = false := by simp; omega
        obtain ⟨wm, hmk, hown, hgm⟩ := run_makeSlice_owned (P := Tryz.prog) (w := wr) W0.heap.size 134 70 i0 .nilIface 1 Tryz.underlying134 hi0 hz0 hz1 .i64 .i64 k (by omega) (by rw [hz2]; omega) (by unfold maxLen; omega) hb.out.size
        obtain ⟨q, hq⟩ : ∃ q, wr.heap.size = q := ⟨_, rfl⟩
        rw [hq] at hmk hown
        have hbm : Below W0.heap.size W0 wm := hb.out.grown hgm hb.out.size (by simp)
        have HJ : Hid (Joi W0 wm.heap.size (wm.alloc (.cells #[.slice (some ⟨q, 0, none⟩) 0 k] 137)) (.slice (some ⟨q, 0, none⟩) 0 k) 0) := ⟨hbm.alloc hbm.size _, hbm.size, Has.new _ _ _, _, World.ownsRow.alloc hown _⟩
        clear hany hall h0 hown hgm hbm hb hq
        go_wp2_with fail
        obtain ⟨b, hbb⟩ : ∃ b, wm.heap.size = b := ⟨_, rfl⟩
        rw [hbb] at HJ ⊢
        clear hbb hmk
        go_loopw [28] (fun i wr => ∃ (j k : Nat) (v : Value), i = .int .i64 j ∧ j ≤ n ∧ k ≤ j ∧ Hid (Joi W0 b wr v k)) (fun i _ => n - (intOf i).toNat)
        case atStart => exact ⟨0, 0, _, rfl, Nat.zero_le _, Nat.le_refl _, HJ⟩
        case round =>
          clear HJ
          obtain ⟨j, k, v, rfl, hj, hk, hJ⟩ := hrel
          by_cases hlt : j < n
          · have hi : (j : Int) < (n : Int) := by omega
            have hjl : j < es.length := by rw [← HN.out]; exact hlt
            obtain ⟨x, hx⟩ : ∃ x, es[j] = x := ⟨_, rfl⟩
            have hc : wr.cell? ⟨g, j, none⟩ = some x := by
              have := (H.out.below hJ.out.below H.out.lt).cell j
              rw [this]
              simp [List.getElem?_eq_getElem hjl, hx]
            rcases HES.out x (by rw [← hx]; exact List.getElem_mem hjl) with rfl | ⟨t, u, rfl⟩
            · clear hx hjl
              go_wp2_with fail
              go_roundw
              case rel => exact ⟨j + 1, k, v, by go_num, by omega, by omega, hJ⟩
              case measure => simp [intOf]; omega
            · obtain ⟨xs, hown⟩ := hJ.out.own
              obtain ⟨a1, c1, rfl⟩ := own_shape' hown
              have c0 : wr.cell? ⟨b, 0, none⟩ = some (.slice a1 k c1) := hJ.out.has.cell 0
              obtain ⟨w3, hw3⟩ : ∃ w3, wr.alloc (.cells #[.iface t u] 70) = w3 := ⟨_, rfl⟩
              obtain ⟨bx, hbx⟩ : ∃ bx, wr.heap.size = bx := ⟨_, rfl⟩
              have hnew : Has w3 bx 70 #[.iface t u] := by rw [← hw3, ← hbx]; exact Has.new _ _ _
              have hown3 : w3.ownsRow W0.heap.size 70 1 (.slice a1 k c1) k xs := by rw [← hw3]; exact World.ownsRow.alloc hown _
              have hh3 : Has w3 b 137 #[.slice a1 k c1] := by rw [← hw3]; exact hJ.out.has.alloc _
              have hb3 : Below W0.heap.size W0 w3 := by rw [← hw3]; exact hJ.out.below.alloc hJ.out.below.size _
              have HNEW := hidden hnew
              have HOWN3 := hidden hown3
              have HH3 := hidden hh3
              have HB3 := hidden hb3
              have HLO := hidden hJ.out.lo
              have HWX := hidden (And.intro hw3 hbx)
              clear hx hjl hown hJ hnew hown3 hh3 hb3 hw3 hbx
              go_wp2_with (at_builtin; rw [HWX.out.1, HWX.out.2]; refine wpList_append_own _ rfl _ _ 134 rfl W0.heap.size 70 i0 .nilIface 1 16 Tryz.underlying134 hi0 hz0 hz1 hz2 rfl (by decide) _ _ _ rfl HOWN3.out ⟨bx, 0, none⟩ 1 1 [.iface t u] rfl rfl (fun i z hz => by
                  cases i with
                  | zero => simp at hz; subst hz; exact HNEW.out.cell 0
                  | succ i => simp at hz) (by intro z hz; simp at hz; subst hz; rfl) (by unfold maxLen; omega) (by omega) HB3.out.size ?_)
              intro v' w' hown' hg' _
              obtain ⟨a2, c2, rfl⟩ := own_shape' hown'
              have hh4 : Has w' b 137 #[.slice a1 k c1] := HH3.out.grown hg' (fun e => by
                rcases row_apart' HOWN3.out HH3.out (by decide) with h1 | h1
                · rw [h1] at e; cases e
                · exact h1 e.symm)
              have hb4 : Below W0.heap.size W0 w' := HB3.out.grown hg' HB3.out.size (fun i e => (HOWN3.out.lt i e).1)
              have c4 : w'.cell? ⟨b, 0, none⟩ = some (.slice a1 k c1) := hh4.cell 0
              have f4 := hh4.free 0
              have HF : Hid (Joi W0 b (w'.setCell ⟨b, 0, none⟩ (.slice a2 (k + 1) c2)) (.slice a2 (k + 1) c2) (k + 1)) := ⟨hb4.setCell HLO.out _, HLO.out, by have := hh4.put 0 (.slice a2 (k + 1) c2); simpa using this, _, hown'.kept (only_put' (g := b) 0 _) (row_apart' hown' hh4 (by decide))⟩
              clear hown' hg' hh4 hb4 HNEW HOWN3 HH3 HB3 HLO HWX c0
              go_wp2_with fail
              go_roundw
              case rel => exact ⟨j + 1, k + 1, _, by go_num, by omega, by omega, HF⟩
              case measure => simp [intOf]; omega
          · have hi : ¬ (j : Int) < (n : Int) := by omega
            have HB := hidden hJ.out.below
            clear hJ
            go_wp2_with fail
            go_ret
            exact ⟨_, rfl, by rw [HTR.out]; exact ⟨_, _, rfl⟩, HB.out⟩
open Go.RowKit
set_option maxRecDepth 100000 in
set_option maxHeartbeats 1000000 in
theorem name_any (W : World) (B g o : Nat) (T : TypeId) (cs : Array Value) (c : Cu) (h : Cur W B g o T cs c) (t : List Int) (vt : Value) (ht : SlV W B t vt) :
    Calls Tryz.prog 102 #[.pointer (some ⟨g, o, none⟩), vt] W fun r w' => r = .returned (.string (c.name t)) ∧ ∃ cs', Took W B g o T cs (c.named t) w' cs' := by
  have HN := hidden (number_any W B g o T cs c h 2 (.inr rfl))
  obtain ⟨x, hx⟩ : ∃ x, c.num 2 = x := ⟨_, rfl⟩
  rw [hx] at HN
  have HA : Hid (∀ w' cs', Took W B g o T cs (c.past 2) w' cs' → Calls Tryz.prog 117 #[vt, .int .i64 x] w' fun e w2 => e = .returned (textVal (textAt t x)) ∧ w' = w2) := fun w' cs' hk => by
    obtain ⟨a, cap, rfl, hi, h1, h2⟩ := ht.grown hk.grown h.base h.size
    exact nameAt_any w' B a cap t hi h1 h2 x
  rcases hs : textAt t x with _ | s
  · have e1 : c.name t = ⟨#[]⟩ := by unfold Cu.name nameOf; rw [hx, hs]
    have e2 : c.named t = ⟨[], true⟩ := by unfold Cu.named; rw [hx, hs]; rfl
    rw [hs] at HA
    rw [e1, e2]
    clear h ht hx hs e1 e2
    go_enter Tryz.func102, Tryz.ntmps102
    go_wp2_with fail
    refine HN.out.mono ?_
    rintro r w1 ⟨rfl, cs1, hk⟩
    have HV := hidden (HA.out w1 cs1 hk)
    obtain ⟨te, ue, hge⟩ := hk.cur.errs.name
    have HF := hidden (fail_any w1 B g o T cs1 _ hk.cur te ue)
    have HK := hidden hk
    clear hk HN HA
    go_wp2_with fail
    refine HV.out.mono ?_
    rintro r _ ⟨rfl, rfl⟩
    clear HV
    unfold textVal
    go_wp2_with fail
    refine HF.out.mono ?_
    rintro r w2 ⟨rfl, -, cs2, hk2⟩
    have HE := hidden (HK.out.trans hk2)
    clear hk2 HF HK hge
    go_wp2_with fail
    go_ret
    exact ⟨rfl, _, HE.out⟩
  · have e1 : c.name t = strOfNums s := by unfold Cu.name nameOf; rw [hx, hs]
    have e2 : c.named t = c.past 2 := by unfold Cu.named; rw [hx, hs]; rfl
    rw [hs] at HA
    obtain ⟨y, hy⟩ : ∃ y, strOfNums s = y := ⟨_, rfl⟩
    have HTV : Hid (textVal (some s) = .tuple #[.string y, .bool true]) := by show _ = _; rw [← hy]; rfl
    rw [e1, e2, hy]
    clear h ht hx hs e1 e2 hy
    go_enter Tryz.func102, Tryz.ntmps102
    go_wp2_with fail
    refine HN.out.mono ?_
    rintro r w1 ⟨rfl, cs1, hk⟩
    have HV := hidden (HA.out w1 cs1 hk)
    have HK := hidden hk
    clear hk HN HA
    go_wp2_with fail
    refine HV.out.mono ?_
    rw [HTV.out]
    rintro r _ ⟨rfl, rfl⟩
    clear HV HTV
    go_wp2_with fail
    go_ret
    exact ⟨rfl, _, HK.out⟩
theorem CurAt.other {W W' : World} {B g o o2 : Nat} {T : TypeId} {cs cs' : Array Value} {c c2 : Cu} (h : CurAt W B cs o2 c2) (hB : B ≤ W.heap.size) (hg : B ≤ g) (k : Took W B g o T cs c W' cs') (h1 : o2 ≠ o) (h2 : o2 ≠ o + 1) (h3 : o2 + 1 ≠ o) : CurAt W' B cs' o2 c2 := by
  obtain ⟨⟨v, hv, hs⟩, e, he, hb⟩ := h
  exact ⟨⟨v, (k.same o2 h1 h2).trans hv, hs.grown k.grown hg hB⟩, e, (k.same (o2 + 1) h3 (by omega)).trans he, hb⟩
structure Curs (W : World) (B g : Nat) (vt : Value) (S : C5) : Prop where
  cells : ∃ cs, Has W g 104 cs ∧ cs.size = 9 ∧ CurAt W B cs 0 S.s ∧ CurAt W B cs 2 S.m ∧ CurAt W B cs 4 S.f ∧ CurAt W B cs 6 S.b ∧ cs[8]? = some vt ∧ SlV W B S.t vt
  base : B ≤ g
  errs : Errs W
  low : errTop ≤ B
def C5.at (S : C5) : Nat → Cu
  | 0 => S.s
  | 2 => S.m
  | 4 => S.f
  | _ => S.b
def C5.with (S : C5) (o : Nat) (c : Cu) : C5 :=
  match o with
  | 0 => { S with s := c }
  | 2 => { S with m := c }
  | 4 => { S with f := c }
  | _ => { S with b := c }
theorem C5.at0 (S : C5) : S.at 0 = S.s := rfl
theorem C5.with0 (S : C5) (c : Cu) : S.with 0 c = { S with s := c } := rfl
section
variable {W W' : World} {B g : Nat} {vt : Value} {S : C5}
theorem Curs.has (h : Curs W B g vt S) : ∃ cs, Has W g 104 cs := by obtain ⟨cs, hh, _⟩ := h.cells; exact ⟨cs, hh⟩
theorem Curs.lt (h : Curs W B g vt S) : g < W.heap.size := by obtain ⟨cs, hh⟩ := h.has; exact hh.lt
theorem Curs.size (h : Curs W B g vt S) : B ≤ W.heap.size := Nat.le_trans h.base (Nat.le_of_lt h.lt)
theorem Curs.kept (h : Curs W B g vt S) {row : Option Nat} (hw : W.grownBy W' row) (hr : some g ≠ row) (hB : ∀ j, row = some j → B ≤ j) : Curs W' B g vt S := by
  obtain ⟨cs, hh, hz, h0, h2, h4, h6, hv, hs⟩ := h.cells
  have sl : ∀ {l v}, SlV W B l v → SlV W' B l v := fun {l v} hs => by
    obtain ⟨a, cap, e, hi, h1, h2⟩ := hs
    refine ⟨a, cap, e, ⟨hi.1, fun hn => ?_⟩, h1, h2⟩
    obtain ⟨b, off, e, hb, hc⟩ := hi.2 hn
    exact ⟨b, off, e, hb, fun i hi => (cell_same (hw.block b (Nat.lt_of_lt_of_le hb h.size) (fun e => by have := hB b e.symm; omega))).trans (hc i hi)⟩
  have ca : ∀ {o c}, CurAt W B cs o c → CurAt W' B cs o c := fun {o c} hc => by
    obtain ⟨⟨v, hv, hs⟩, he⟩ := hc
    exact ⟨⟨v, hv, sl hs⟩, he⟩
  have er : ∀ i, i < errTop → W'.cell? ⟨i, 0, none⟩ = W.cell? ⟨i, 0, none⟩ := fun i hi => cell_same (hw.block i (Nat.lt_of_lt_of_le hi h.errs.lt) (fun e => by have := hB i e.symm; have := h.low; omega))
  refine ⟨⟨cs, hh.grown hw hr, hz, ca h0, ca h2, ca h4, ca h6, hv, sl hs⟩, h.base, ⟨Nat.le_trans h.errs.lt hw.size, ?_, ?_, ?_, ?_⟩, h.low⟩
  · rw [er _ (by unfold errTop; omega)]; exact h.errs.header
  · rw [er _ (by unfold errTop; omega)]; exact h.errs.short
  · rw [er _ (by unfold errTop; omega)]; exact h.errs.name
  · rw [er _ (by unfold errTop; omega)]; exact h.errs.other
theorem Curs.alloc (h : Curs W B g vt S) (o : Obj) : Curs (W.alloc o) B g vt S :=
  h.kept (row := none) ⟨rfl, rfl, rfl, by simp, fun i hi _ => Below.heap_alloc W o i hi⟩ (by simp) (by simp)
theorem Curs.drew (h : Curs W B g vt S) : Curs W.drew B g vt S := h.kept (row := none) ⟨rfl, rfl, rfl, Nat.le_refl _, fun _ _ _ => rfl⟩ (by simp) (by simp)
theorem Curs.put (h : Curs W B g vt S) {b : Nat} {T : TypeId} {cs : Array Value} (hb : Has W b T cs) (hT : T ≠ 104) (hB : B ≤ b) (i : Nat) (v : Value) : Curs (W.setCell ⟨b, i, none⟩ v) B g vt S :=
  h.kept (row := some b) (only_put' i v) (fun e => by
    injection e with e
    subst e
    obtain ⟨cs', hh⟩ := h.has
    unfold Has at hb hh
    rw [hb] at hh
    injection hh with hh
    injection hh with _ hh
    exact hT hh) (fun j e => by injection e with e; omega)
theorem Curs.row (h : Curs W B g vt S) {base : Nat} {T : TypeId} {size : Nat} {v : Value} {n : Nat} {xs : List Value} (ho : W.ownsRow base T size v n xs) (hT : T ≠ 104) (hB : B ≤ base) (hw : W.grownBy W' v.ownBlock) : Curs W' B g vt S := by
  obtain ⟨cs, hh⟩ := h.has
  refine h.kept hw (fun e => ?_) (fun j e => Nat.le_trans hB (ho.lt j e).1)
  rcases row_apart ho hh hT with h1 | h1
  · rw [h1] at e; cases e
  · exact h1 e.symm
theorem Curs.open (h : Curs W B g vt S) (o : Nat) (ho : o = 0 ∨ o = 2 ∨ o = 4 ∨ o = 6) : ∃ cs, Cur W B g o 104 cs (S.at o) ∧ ∀ c w' cs', Took W B g o 104 cs c w' cs' → Curs w' B g vt (S.with o c) := by
  obtain ⟨cs, hh, hz, h0, h2, h4, h6, hv, hs⟩ := h.cells
  have hB := h.size
  have hg := h.base
  rcases ho with rfl | rfl | rfl | rfl
  · exact ⟨cs, ⟨hh, h0, hg, h.errs, h.low⟩, fun c w' cs' k => ⟨⟨cs', k.cur.has, k.size.trans hz, k.cur.at_, h2.other hB hg k (by decide) (by decide) (by decide), h4.other hB hg k (by decide) (by decide) (by decide), h6.other hB hg k (by decide) (by decide) (by decide), (k.same 8 (by decide) (by decide)).trans hv, hs.grown k.grown hg hB⟩, hg, k.cur.errs, h.low⟩⟩
  · exact ⟨cs, ⟨hh, h2, hg, h.errs, h.low⟩, fun c w' cs' k => ⟨⟨cs', k.cur.has, k.size.trans hz, h0.other hB hg k (by decide) (by decide) (by decide), k.cur.at_, h4.other hB hg k (by decide) (by decide) (by decide), h6.other hB hg k (by decide) (by decide) (by decide), (k.same 8 (by decide) (by decide)).trans hv, hs.grown k.grown hg hB⟩, hg, k.cur.errs, h.low⟩⟩
  · exact ⟨cs, ⟨hh, h4, hg, h.errs, h.low⟩, fun c w' cs' k => ⟨⟨cs', k.cur.has, k.size.trans hz, h0.other hB hg k (by decide) (by decide) (by decide), h2.other hB hg k (by decide) (by decide) (by decide), k.cur.at_, h6.other hB hg k (by decide) (by decide) (by decide), (k.same 8 (by decide) (by decide)).trans hv, hs.grown k.grown hg hB⟩, hg, k.cur.errs, h.low⟩⟩
  · exact ⟨cs, ⟨hh, h6, hg, h.errs, h.low⟩, fun c w' cs' k => ⟨⟨cs', k.cur.has, k.size.trans hz, h0.other hB hg k (by decide) (by decide) (by decide), h2.other hB hg k (by decide) (by decide) (by decide), h4.other hB hg k (by decide) (by decide) (by decide), k.cur.at_, (k.same 8 (by decide) (by decide)).trans hv, hs.grown k.grown hg hB⟩, hg, k.cur.errs, h.low⟩⟩
theorem Curs.table (h : Curs W B g vt S) : W.cell? ⟨g, 8, none⟩ = some vt ∧ SlV W B S.t vt := by
  obtain ⟨cs, hh, hz, h0, h2, h4, h6, hv, hs⟩ := h.cells
  exact ⟨(hh.cell 8).trans hv, hs⟩
theorem curs_num (h : Curs W B g vt S) (o : Nat) (ho : o = 0 ∨ o = 2 ∨ o = 4 ∨ o = 6) (k : Nat) (hk : k = 1 ∨ k = 2) :
    Calls Tryz.prog 103 #[.pointer (some ⟨g, o, none⟩), .int .i64 k] W fun r w' => r = .returned (.int .i64 ((S.at o).num k)) ∧ Curs w' B g vt (S.with o ((S.at o).past k)) ∧ W.grownBy w' (some g) := by
  obtain ⟨cs, hc, hk2⟩ := h.open o ho
  exact (number_any W B g o _ cs _ hc k hk).mono fun e w' ⟨h1, cs', h2⟩ => ⟨h1, hk2 _ _ _ h2, h2.grown⟩
theorem curs_take (h : Curs W B g vt S) (k : Nat) (hk : k ≤ 9223372036854775807) :
    Calls Tryz.prog 101 #[.pointer (some ⟨g, 6, none⟩), .int .i64 k] W fun r w' => (∃ v, r = .returned v ∧ SlV w' B (S.b.cut k) v) ∧ Curs w' B g vt (S.with 6 (S.b.past k)) ∧ W.grownBy w' (some g) := by
  obtain ⟨cs, hc, hk2⟩ := h.open 6 (by decide)
  exact (take_any W B g 6 _ cs _ hc k hk).mono fun e w' ⟨h1, _, cs', h2⟩ => ⟨h1, hk2 _ _ _ h2, h2.grown⟩
theorem curs_name (h : Curs W B g vt S) (o : Nat) (ho : o = 0 ∨ o = 2 ∨ o = 4 ∨ o = 6) :
    Calls Tryz.prog 102 #[.pointer (some ⟨g, o, none⟩), vt] W fun r w' => r = .returned (.string ((S.at o).name S.t)) ∧ Curs w' B g vt (S.with o ((S.at o).named S.t)) ∧ W.grownBy w' (some g) := by
  obtain ⟨cs, hc, hk2⟩ := h.open o ho
  exact (name_any W B g o _ cs _ hc S.t vt h.table.2).mono fun e w' ⟨h1, cs', h2⟩ => ⟨h1, hk2 _ _ _ h2, h2.grown⟩
end
theorem grown_later {a b c : World} {g : Nat} {row : Option Nat} (h : a.grownBy b (some g)) (k : b.grownBy c row) (hr : ∀ j, row = some j → a.heap.size ≤ j) : a.grownBy c (some g) :=
  ⟨k.os.trans h.os, k.tape.trans h.tape, k.output.trans h.output, Nat.le_trans h.size k.size, fun i hi hne => (k.block i (Nat.lt_of_lt_of_le hi h.size) (fun e => by have := hr i e.symm; omega)).trans (h.block i hi hne)⟩
theorem grown_alloc {a b : World} {g : Nat} (h : a.grownBy b (some g)) (o : Obj) : a.grownBy (b.alloc o) (some g) :=
  grown_later (row := none) h ⟨rfl, rfl, rfl, by simp, fun i hi _ => Below.heap_alloc b o i hi⟩ (by simp)
theorem grown_drew {a b : World} {g : Nat} (h : a.grownBy b (some g)) : a.grownBy b.drew (some g) := grown_later (row := none) h ⟨rfl, rfl, rfl, Nat.le_refl _, fun _ _ _ => rfl⟩ (by simp)
theorem grown_put {a b : World} {g q : Nat} (h : a.grownBy b (some g)) (hq : a.heap.size ≤ q) (i : Nat) (v : Value) : a.grownBy (b.setCell ⟨q, i, none⟩ v) (some g) :=
  grown_later (row := some q) h (only_put' i v) (fun j e => by injection e with e; omega)
theorem grown_self (a : World) (g : Nat) : a.grownBy a (some g) := ⟨rfl, rfl, rfl, Nat.le_refl _, fun _ _ _ => rfl⟩
theorem curs_ne {W : World} {B g b : Nat} {vt : Value} {S : C5} {T : TypeId} {cs : Array Value} (h : Curs W B g vt S) (hb : Has W b T cs) (hT : T ≠ 104) : some b ≠ some g := fun e => by
  injection e with e
  subst e
  obtain ⟨cs', hh⟩ := h.has
  unfold Has at hb hh
  rw [hb] at hh
  injection hh with hh
  injection hh with _ hh
  exact hT hh
theorem upd_same {vals : Nat → Value} {k : Nat} {u : Value} (h : vals k = u) : upd vals k u = vals := funext fun j => by
  unfold upd
  split
  · rename_i e
    rw [e, h]
  · rfl
def fxC (c : Cu) : Nat → Cu
  | 0 => c
  | 1 => c.past 1
  | 2 => (c.past 1).past 1
  | 3 => ((c.past 1).past 1).past 1
  | _ => fixPast c
structure JFx (wb : World) (B g : Nat) (vt : Value) (S : C5) (k : Nat) (_f : Bool) (W : World) (vals : Nat → Value) : Prop where
  grown : wb.grownBy W (some g)
  curs : Curs W B g vt { S with f := fxC S.f k }
  res : Has W wb.heap.size 65 (if k = 5 then #[.int .i64 (fixAt S.f).pl, .int .i64 (fixAt S.f).kind, .int .i64 (fixAt S.f).to, .int .i64 (fixAt S.f).add] else #[.int .i64 0, .int .i64 0, .int .i64 0, .int .i64 0])
  fix : vals 0 = .int .i64 (fixAt S.f).pl ∧ vals 1 = .int .i64 (fixAt S.f).kind ∧ vals 2 = .int .i64 (fixAt S.f).to ∧ vals 3 = .int .i64 ((fixAt S.f).add + 1000)
set_option maxRecDepth 100000 in
set_option maxHeartbeats 4000000 in
theorem fixup_any (W0 : World) (B g : Nat) (vt : Value) (S : C5) (h : Curs W0 B g vt S) (hw : ∀ x ∈ S.f.left, (Lit.int .u8 x).wf = true) :
    Calls Tryz.prog 104 #[.pointer (some ⟨g, 0, none⟩)] W0 fun r w' => r = .returned (.agg #[.int .i64 (fixAt S.f).pl, .int .i64 (fixAt S.f).kind, .int .i64 (fixAt S.f).to, .int .i64 (fixAt S.f).add]) ∧ Curs w' B g vt { S with f := fixPast S.f } ∧ W0.grownBy w' (some g) := by
  obtain ⟨y0, hy0⟩ : ∃ y, (fixAt S.f).pl = y := ⟨_, rfl⟩
  obtain ⟨y1, hy1⟩ : ∃ y, (fixAt S.f).kind = y := ⟨_, rfl⟩
  obtain ⟨y2, hy2⟩ : ∃ y, (fixAt S.f).to = y := ⟨_, rfl⟩
  obtain ⟨y3, hy3⟩ : ∃ y, (fixAt S.f).add = y := ⟨_, rfl⟩
  have hsm := fixAt_small hw
  have hn3 := (((S.f.past 1).past 1).past 1).num_nonneg 2
  have hb3 := Cu.num2_le (past_wf (past_wf (past_wf hw 1) 1) 1)
  have hy30 : (((S.f.past 1).past 1).past 1).num 2 - 1000 = y3 := hy3
  have r3 : IntKind.i64.wrap y3 = y3 := IntWalk.i64_in _ (by omega)
  have hJ : Hid (JFx W0 B g vt S 0 false ((W0.alloc (.cells #[.int .i64 0, .int .i64 0, .int .i64 0, .int .i64 0] 65)).drew) fun i => if i = 0 then .int .i64 y0 else if i = 1 then .int .i64 y1 else if i = 2 then .int .i64 y2 else .int .i64 (y3 + 1000)) :=
    ⟨grown_drew (grown_alloc (grown_self W0 g) _), (h.alloc _).drew, (Has.new _ _ _).drew, by rw [hy0]; rfl, by rw [hy1]; rfl, by rw [hy2]; rfl, by rw [hy3]; rfl⟩
  have e0 : S.f.num 1 = y0 := hy0
  have e1 : (S.f.past 1).num 1 = y1 := hy1
  have e2 : ((S.f.past 1).past 1).num 1 = y2 := hy2
  have e3 : (((S.f.past 1).past 1).past 1).num 2 = y3 + 1000 := by omega
  have hB := Nat.le_trans h.base (Nat.le_of_lt h.lt)
  have HB := hidden hB
  clear h hsm hn3 hb3 hy30 hw hB
  rw [hy0, hy1, hy2, hy3]
  go_enter Tryz.func104, Tryz.ntmps104
  go_upto_region 1 with fail
  refine wp_region_free (m := 5) (js := [.quiet (.pointer (some ⟨g, 0, none⟩)) 0 5, .quiet (.pointer (some ⟨g, 0, none⟩)) 0 5, .quiet (.pointer (some ⟨g, 4, none⟩)) 0 5, .chain 0 false, .quiet (.pointer (some ⟨g, 0, none⟩)) 0 5, .quiet (.pointer (some ⟨g, 0, none⟩)) 0 5, .quiet (.pointer (some ⟨g, 4, none⟩)) 0 5, .chain 1 false, .quiet (.pointer (some ⟨g, 0, none⟩)) 0 5, .quiet (.pointer (some ⟨g, 0, none⟩)) 0 5, .quiet (.pointer (some ⟨g, 4, none⟩)) 0 5, .chain 2 false, .quiet (.pointer (some ⟨g, 0, none⟩)) 0 5, .quiet (.pointer (some ⟨g, 0, none⟩)) 0 5, .quiet (.pointer (some ⟨g, 4, none⟩)) 0 5, .chain 3 false, .quiet (.int .i64 y3) 0 5, .quiet (.agg #[.int .i64 y0, .int .i64 y1, .int .i64 y2, .int .i64 y3]) 0 5, .chain 4 false]) (by kernel_rfl) (JFx W0 B g vt S) (by kernel_rfl) (by kernel_rfl) ⟨_, hJ.out⟩ (fun vals => ?_) ?_
  · show SeqX _ _ _ _ _ _ _
    iterate 3
      refine ⟨fun kk hlo hhi ff W hW => ?_, ?_⟩
      · unfold Oper.wp
        simp [go_sem]
        try exact ⟨_, rfl, rfl⟩
      simp only [Act.put, JobX.val, pA, pB, pC]
    refine ⟨fun ff W hwt hW => ?_, ?_⟩
    · unfold Oper.wp
      simp [go_sem]
      refine (curs_num hW.curs 4 (by decide) 1 (by decide)).mono ?_
      rintro e w' ⟨rfl, hc, hg⟩
      have hN : JFx W0 B g vt S 1 ff w' (upd vals 0 (.int .i64 (y0))) := ⟨grown_trans hW.grown hg, hc, by have := hW.res.grown hg (curs_ne hW.curs hW.res (by decide)); simpa using this, by rw [upd_same (by obtain ⟨q0, q1, q2, q3⟩ := hW.fix; rw [hy0] at q0; rw [hy1] at q1; rw [hy2] at q2; rw [hy3] at q3; assumption)]; exact hW.fix⟩
      have he : ({ S with f := fxC S.f 0 } : C5).at 4 = fxC S.f 0 := rfl
      rw [he]
      have hv : (fxC S.f 0).num 1 = y0 := e0
      rw [hv]
      first | exact hN | exact ⟨_, rfl, hN⟩
    simp only [Act.put, JobX.val, pA, pB, pC]
    iterate 3
      refine ⟨fun kk hlo hhi ff W hW => ?_, ?_⟩
      · unfold Oper.wp
        simp [go_sem]
        try exact ⟨_, rfl, rfl⟩
      simp only [Act.put, JobX.val, pA, pB, pC]
    refine ⟨fun ff W hwt hW => ?_, ?_⟩
    · unfold Oper.wp
      simp [go_sem]
      refine (curs_num hW.curs 4 (by decide) 1 (by decide)).mono ?_
      rintro e w' ⟨rfl, hc, hg⟩
      have hN : JFx W0 B g vt S 2 ff w' (upd vals 1 (.int .i64 (y1))) := ⟨grown_trans hW.grown hg, hc, by have := hW.res.grown hg (curs_ne hW.curs hW.res (by decide)); simpa using this, by rw [upd_same (by obtain ⟨q0, q1, q2, q3⟩ := hW.fix; rw [hy0] at q0; rw [hy1] at q1; rw [hy2] at q2; rw [hy3] at q3; assumption)]; exact hW.fix⟩
      have he : ({ S with f := fxC S.f 1 } : C5).at 4 = fxC S.f 1 := rfl
      rw [he]
      have hv : (fxC S.f 1).num 1 = y1 := e1
      rw [hv]
      first | exact hN | exact ⟨_, rfl, hN⟩
    simp only [Act.put, JobX.val, pA, pB, pC]
    iterate 3
      refine ⟨fun kk hlo hhi ff W hW => ?_, ?_⟩
      · unfold Oper.wp
        simp [go_sem]
        try exact ⟨_, rfl, rfl⟩
      simp only [Act.put, JobX.val, pA, pB, pC]
    refine ⟨fun ff W hwt hW => ?_, ?_⟩
    · unfold Oper.wp
      simp [go_sem]
      refine (curs_num hW.curs 4 (by decide) 1 (by decide)).mono ?_
      rintro e w' ⟨rfl, hc, hg⟩
      have hN : JFx W0 B g vt S 3 ff w' (upd vals 2 (.int .i64 (y2))) := ⟨grown_trans hW.grown hg, hc, by have := hW.res.grown hg (curs_ne hW.curs hW.res (by decide)); simpa using this, by rw [upd_same (by obtain ⟨q0, q1, q2, q3⟩ := hW.fix; rw [hy0] at q0; rw [hy1] at q1; rw [hy2] at q2; rw [hy3] at q3; assumption)]; exact hW.fix⟩
      have he : ({ S with f := fxC S.f 2 } : C5).at 4 = fxC S.f 2 := rfl
      rw [he]
      have hv : (fxC S.f 2).num 1 = y2 := e2
      rw [hv]
      first | exact hN | exact ⟨_, rfl, hN⟩
    simp only [Act.put, JobX.val, pA, pB, pC]
    iterate 3
      refine ⟨fun kk hlo hhi ff W hW => ?_, ?_⟩
      · unfold Oper.wp
        simp [go_sem]
        try exact ⟨_, rfl, rfl⟩
      simp only [Act.put, JobX.val, pA, pB, pC]
    refine ⟨fun ff W hwt hW => ?_, ?_⟩
    · unfold Oper.wp
      simp [go_sem]
      refine (curs_num hW.curs 4 (by decide) 2 (by decide)).mono ?_
      rintro e w' ⟨rfl, hc, hg⟩
      have hN : JFx W0 B g vt S 4 ff w' (upd vals 3 (.int .i64 (y3 + 1000))) := ⟨grown_trans hW.grown hg, hc, by have := hW.res.grown hg (curs_ne hW.curs hW.res (by decide)); simpa using this, by rw [upd_same (by obtain ⟨q0, q1, q2, q3⟩ := hW.fix; rw [hy0] at q0; rw [hy1] at q1; rw [hy2] at q2; rw [hy3] at q3; assumption)]; exact hW.fix⟩
      have he : ({ S with f := fxC S.f 3 } : C5).at 4 = fxC S.f 3 := rfl
      rw [he]
      have hv : (fxC S.f 3).num 2 = y3 + 1000 := e3
      rw [hv]
      first | exact hN | exact ⟨_, rfl, hN⟩
    simp only [Act.put, JobX.val, pA, pB, pC]
    refine ⟨fun kk hlo hhi ff W hW => ?_, ?_⟩
    · have q3 := hW.fix.2.2.2
      rw [hy3] at q3
      unfold Oper.wp
      simp [go_sem, q3, r3]
      try exact ⟨_, rfl, rfl⟩
    simp only [Act.put, JobX.val, pA, pB, pC]
    refine ⟨fun kk hlo hhi ff W hW => ?_, ?_⟩
    · obtain ⟨q0, q1, q2, -⟩ := hW.fix
      rw [hy0] at q0
      rw [hy1] at q1
      rw [hy2] at q2
      unfold Oper.wp
      simp [go_sem, q0, q1, q2]
      try exact ⟨_, rfl, rfl⟩
    simp only [Act.put, JobX.val, pA, pB, pC]
    refine ⟨fun ff W hwt hW => ?_, ?_⟩
    · have hr : Has W W0.heap.size 65 #[.int .i64 0, .int .i64 0, .int .i64 0, .int .i64 0] := by simpa using hW.res
      have f0 := hr.free
      have c0 := hr.cell
      have hN : JFx W0 B g vt S 5 ff ((((W.setCell ⟨W0.heap.size, 0, none⟩ (.int .i64 y0)).setCell ⟨W0.heap.size, 1, none⟩ (.int .i64 y1)).setCell ⟨W0.heap.size, 2, none⟩ (.int .i64 y2)).setCell ⟨W0.heap.size, 3, none⟩ (.int .i64 y3)) (upd vals 4 (vals 4)) := by
        have h4 := (((hr.put 0 (.int .i64 y0)).put 1 (.int .i64 y1)).put 2 (.int .i64 y2)).put 3 (.int .i64 y3)
        have c4 := (((hW.curs.put hr (by decide) HB.out 0 (.int .i64 y0)).put (hr.put 0 (.int .i64 y0)) (by decide) HB.out 1 (.int .i64 y1)).put ((hr.put 0 (.int .i64 y0)).put 1 (.int .i64 y1)) (by decide) HB.out 2 (.int .i64 y2)).put (((hr.put 0 (.int .i64 y0)).put 1 (.int .i64 y1)).put 2 (.int .i64 y2)) (by decide) HB.out 3 (.int .i64 y3)
        refine ⟨grown_put (grown_put (grown_put (grown_put hW.grown (Nat.le_refl _) _ _) (Nat.le_refl _) _ _) (Nat.le_refl _) _ _) (Nat.le_refl _) _ _, c4, ?_, by rw [upd_same rfl]; exact hW.fix⟩
        rw [if_pos rfl, hy0, hy1, hy2, hy3]
        simpa using h4
      clear hr
      unfold Oper.wp
      simp [go_sem, c0, f0]
      exact ⟨_, hN⟩
    simp only [Act.put]
    exact trivial
  · intro ff W vals _ hJ
    simp only [putAll, List.map_cons, List.map_nil, JobX.val, Act.put, pA, pB, pC]
    have hr : Has W W0.heap.size 65 #[.int .i64 y0, .int .i64 y1, .int .i64 y2, .int .i64 y3] := by
      have := hJ.res
      rw [if_pos rfl, hy0, hy1, hy2, hy3] at this
      exact this
    have HR := hidden hr
    have HG := hidden hJ.grown
    have HC := hidden hJ.curs
    clear hr hJ
    go_wp2_with fail
    refine bodyPost_ret (results_cell_row rfl _ _ W0.heap.size 65 #[.int .i64 y0, .int .i64 y1, .int .i64 y2, .int .i64 y3] (0, 0) _ rfl HR.out Tryz.underlying65 rfl (by kernel_rfl)) rfl ?_
    exact ⟨rfl, HC.out, HG.out⟩
def syC (t : List Int) (c : Cu) : Nat → Cu
  | 0 => c
  | 1 => c.named t
  | 2 => (c.named t).past 1
  | 3 => ((c.named t).past 1).past 1
  | _ => symPast t c
structure JSy (wb : World) (B g : Nat) (vt : Value) (S : C5) (k : Nat) (_f : Bool) (W : World) (vals : Nat → Value) : Prop where
  grown : wb.grownBy W (some g)
  curs : Curs W B g vt { S with m := syC S.t S.m k }
  res : Has W wb.heap.size 51 (if k = 5 then #[.string (symAt S.t S.m).name, .int .i64 (symAt S.t S.m).bind, .int .i64 (symAt S.t S.m).loc, .int .i64 (symAt S.t S.m).value] else #[.string ⟨#[]⟩, .int .i64 0, .int .i64 0, .int .i64 0])
  fix : vals 0 = .string (symAt S.t S.m).name ∧ vals 1 = .int .i64 (symAt S.t S.m).bind ∧ vals 2 = .int .i64 ((symAt S.t S.m).loc + 2) ∧ vals 3 = .int .i64 (symAt S.t S.m).value
set_option maxRecDepth 100000 in
set_option maxHeartbeats 4000000 in
theorem symbol_any (W0 : World) (B g : Nat) (vt : Value) (S : C5) (h : Curs W0 B g vt S) (hw : ∀ x ∈ S.m.left, (Lit.int .u8 x).wf = true) :
    Calls Tryz.prog 79 #[.pointer (some ⟨g, 0, none⟩)] W0 fun r w' => r = .returned (.agg #[.string (symAt S.t S.m).name, .int .i64 (symAt S.t S.m).bind, .int .i64 (symAt S.t S.m).loc, .int .i64 (symAt S.t S.m).value]) ∧ Curs w' B g vt { S with m := symPast S.t S.m } ∧ W0.grownBy w' (some g) := by
  obtain ⟨y0, hy0⟩ : ∃ y, (symAt S.t S.m).name = y := ⟨_, rfl⟩
  obtain ⟨y1, hy1⟩ : ∃ y, (symAt S.t S.m).bind = y := ⟨_, rfl⟩
  obtain ⟨y2, hy2⟩ : ∃ y, (symAt S.t S.m).loc = y := ⟨_, rfl⟩
  obtain ⟨y3, hy3⟩ : ∃ y, (symAt S.t S.m).value = y := ⟨_, rfl⟩
  have hn2 := ((S.m.named S.t).past 1).num_nonneg 1
  have hb2 := Cu.num1_le (past_wf (named_wf hw S.t) 1)
  have hy20 : ((S.m.named S.t).past 1).num 1 - 2 = y2 := hy2
  have r3 : IntKind.i64.wrap y2 = y2 := IntWalk.i64_in _ (by omega)
  have hJ : Hid (JSy W0 B g vt S 0 false ((W0.alloc (.cells #[.string ⟨#[]⟩, .int .i64 0, .int .i64 0, .int .i64 0] 51)).drew) fun i => if i = 0 then .string y0 else if i = 1 then .int .i64 y1 else if i = 2 then .int .i64 (y2 + 2) else .int .i64 y3) :=
    ⟨grown_drew (grown_alloc (grown_self W0 g) _), (h.alloc _).drew, (Has.new _ _ _).drew, by rw [hy0]; rfl, by rw [hy1]; rfl, by rw [hy2]; rfl, by rw [hy3]; rfl⟩
  have e0 : S.m.name S.t = y0 := hy0
  have e1 : (S.m.named S.t).num 1 = y1 := hy1
  have e2 : ((S.m.named S.t).past 1).num 1 = y2 + 2 := by omega
  have e3 : (((S.m.named S.t).past 1).past 1).num 2 = y3 := hy3
  have hB := Nat.le_trans h.base (Nat.le_of_lt h.lt)
  have HB := hidden hB
  clear h hn2 hb2 hy20 hw hB
  rw [hy0, hy1, hy2, hy3]
  go_enter Tryz.func79, Tryz.ntmps79
  go_upto_region 1 with fail
  refine wp_region_free (m := 5) (js := [.quiet (.pointer (some ⟨g, 0, none⟩)) 0 5, .quiet (.pointer (some ⟨g, 0, none⟩)) 0 5, .quiet (.pointer (some ⟨g, 2, none⟩)) 0 5, .quiet (.pointer (some ⟨g, 0, none⟩)) 0 5, .quiet (.pointer (some ⟨g, 0, none⟩)) 0 5, .quiet (.pointer (some ⟨g, 8, none⟩)) 0 5, .quiet (vt) 0 5, .chain 0 false, .quiet (.pointer (some ⟨g, 0, none⟩)) 0 5, .quiet (.pointer (some ⟨g, 0, none⟩)) 0 5, .quiet (.pointer (some ⟨g, 2, none⟩)) 0 5, .chain 1 false, .quiet (.pointer (some ⟨g, 0, none⟩)) 0 5, .quiet (.pointer (some ⟨g, 0, none⟩)) 0 5, .quiet (.pointer (some ⟨g, 2, none⟩)) 0 5, .chain 2 false, .quiet (.int .i64 y2) 0 5, .quiet (.pointer (some ⟨g, 0, none⟩)) 0 5, .quiet (.pointer (some ⟨g, 0, none⟩)) 0 5, .quiet (.pointer (some ⟨g, 2, none⟩)) 0 5, .chain 3 false, .quiet (.agg #[.string y0, .int .i64 y1, .int .i64 y2, .int .i64 y3]) 0 5, .chain 4 false]) (by kernel_rfl) (JSy W0 B g vt S) (by kernel_rfl) (by kernel_rfl) ⟨_, hJ.out⟩ (fun vals => ?_) ?_
  · show SeqX _ _ _ _ _ _ _
    iterate 6
      refine ⟨fun kk hlo hhi ff W hW => ?_, ?_⟩
      · unfold Oper.wp
        simp [go_sem]
        try exact ⟨_, rfl, rfl⟩
      simp only [Act.put, JobX.val, pA, pB, pC]
    refine ⟨fun kk hlo hhi ff W hW => ?_, ?_⟩
    · have q8 := hW.curs.table.1
      unfold Oper.wp
      simp [go_sem, q8]
      try exact ⟨_, rfl, rfl⟩
    simp only [Act.put, JobX.val, pA, pB, pC]
    refine ⟨fun ff W hwt hW => ?_, ?_⟩
    · unfold Oper.wp
      simp [go_sem]
      refine (curs_name hW.curs 2 (by decide)).mono ?_
      rintro e w' ⟨rfl, hc, hg⟩
      have hN : JSy W0 B g vt S 1 ff w' (upd vals 0 (.string y0)) := ⟨grown_trans hW.grown hg, hc, by have := hW.res.grown hg (curs_ne hW.curs hW.res (by decide)); simpa using this, by rw [upd_same (by obtain ⟨q0, q1, q2, q3⟩ := hW.fix; rw [hy0] at q0; rw [hy1] at q1; rw [hy2] at q2; rw [hy3] at q3; assumption)]; exact hW.fix⟩
      have he : ({ S with m := syC S.t S.m 0 } : C5).at 2 = syC S.t S.m 0 := rfl
      rw [he]
      have hv : (syC S.t S.m 0).name S.t = y0 := e0
      rw [hv]
      first | exact hN | exact ⟨_, rfl, hN⟩
    simp only [Act.put, JobX.val, pA, pB, pC]
    iterate 3
      refine ⟨fun kk hlo hhi ff W hW => ?_, ?_⟩
      · unfold Oper.wp
        simp [go_sem]
        try exact ⟨_, rfl, rfl⟩
      simp only [Act.put, JobX.val, pA, pB, pC]
    refine ⟨fun ff W hwt hW => ?_, ?_⟩
    · unfold Oper.wp
      simp [go_sem]
      refine (curs_num hW.curs 2 (by decide) 1 (by decide)).mono ?_
      rintro e w' ⟨rfl, hc, hg⟩
      have hN : JSy W0 B g vt S 2 ff w' (upd vals 1 (.int .i64 y1)) := ⟨grown_trans hW.grown hg, hc, by have := hW.res.grown hg (curs_ne hW.curs hW.res (by decide)); simpa using this, by rw [upd_same (by obtain ⟨q0, q1, q2, q3⟩ := hW.fix; rw [hy0] at q0; rw [hy1] at q1; rw [hy2] at q2; rw [hy3] at q3; assumption)]; exact hW.fix⟩
      have he : ({ S with m := syC S.t S.m 1 } : C5).at 2 = syC S.t S.m 1 := rfl
      rw [he]
      have hv : (syC S.t S.m 1).num 1 = y1 := e1
      rw [hv]
      first | exact hN | exact ⟨_, rfl, hN⟩
    simp only [Act.put, JobX.val, pA, pB, pC]
    iterate 3
      refine ⟨fun kk hlo hhi ff W hW => ?_, ?_⟩
      · unfold Oper.wp
        simp [go_sem]
        try exact ⟨_, rfl, rfl⟩
      simp only [Act.put, JobX.val, pA, pB, pC]
    refine ⟨fun ff W hwt hW => ?_, ?_⟩
    · unfold Oper.wp
      simp [go_sem]
      refine (curs_num hW.curs 2 (by decide) 1 (by decide)).mono ?_
      rintro e w' ⟨rfl, hc, hg⟩
      have hN : JSy W0 B g vt S 3 ff w' (upd vals 2 (.int .i64 (y2 + 2))) := ⟨grown_trans hW.grown hg, hc, by have := hW.res.grown hg (curs_ne hW.curs hW.res (by decide)); simpa using this, by rw [upd_same (by obtain ⟨q0, q1, q2, q3⟩ := hW.fix; rw [hy0] at q0; rw [hy1] at q1; rw [hy2] at q2; rw [hy3] at q3; assumption)]; exact hW.fix⟩
      have he : ({ S with m := syC S.t S.m 2 } : C5).at 2 = syC S.t S.m 2 := rfl
      rw [he]
      have hv : (syC S.t S.m 2).num 1 = y2 + 2 := e2
      rw [hv]
      first | exact hN | exact ⟨_, rfl, hN⟩
    simp only [Act.put, JobX.val, pA, pB, pC]
    refine ⟨fun kk hlo hhi ff W hW => ?_, ?_⟩
    · have q3 := hW.fix.2.2.1
      rw [hy2] at q3
      unfold Oper.wp
      simp [go_sem, q3, r3]
      try exact ⟨_, rfl, rfl⟩
    simp only [Act.put, JobX.val, pA, pB, pC]
    iterate 3
      refine ⟨fun kk hlo hhi ff W hW => ?_, ?_⟩
      · unfold Oper.wp
        simp [go_sem]
        try exact ⟨_, rfl, rfl⟩
      simp only [Act.put, JobX.val, pA, pB, pC]
    refine ⟨fun ff W hwt hW => ?_, ?_⟩
    · unfold Oper.wp
      simp [go_sem]
      refine (curs_num hW.curs 2 (by decide) 2 (by decide)).mono ?_
      rintro e w' ⟨rfl, hc, hg⟩
      have hN : JSy W0 B g vt S 4 ff w' (upd vals 3 (.int .i64 y3)) := ⟨grown_trans hW.grown hg, hc, by have := hW.res.grown hg (curs_ne hW.curs hW.res (by decide)); simpa using this, by rw [upd_same (by obtain ⟨q0, q1, q2, q3⟩ := hW.fix; rw [hy0] at q0; rw [hy1] at q1; rw [hy2] at q2; rw [hy3] at q3; assumption)]; exact hW.fix⟩
      have he : ({ S with m := syC S.t S.m 3 } : C5).at 2 = syC S.t S.m 3 := rfl
      rw [he]
      have hv : (syC S.t S.m 3).num 2 = y3 := e3
      rw [hv]
      first | exact hN | exact ⟨_, rfl, hN⟩
    simp only [Act.put, JobX.val, pA, pB, pC]
    refine ⟨fun kk hlo hhi ff W hW => ?_, ?_⟩
    · obtain ⟨q0, q1, -, q3⟩ := hW.fix
      rw [hy0] at q0
      rw [hy1] at q1
      rw [hy3] at q3
      unfold Oper.wp
      simp [go_sem, q0, q1, q3]
      try exact ⟨_, rfl, rfl⟩
    simp only [Act.put, JobX.val, pA, pB, pC]
    refine ⟨fun ff W hwt hW => ?_, ?_⟩
    · have hr : Has W W0.heap.size 51 #[.string ⟨#[]⟩, .int .i64 0, .int .i64 0, .int .i64 0] := by simpa using hW.res
      have f0 := hr.free
      have c0 := hr.cell
      have hN : JSy W0 B g vt S 5 ff ((((W.setCell ⟨W0.heap.size, 0, none⟩ (.string y0)).setCell ⟨W0.heap.size, 1, none⟩ (.int .i64 y1)).setCell ⟨W0.heap.size, 2, none⟩ (.int .i64 y2)).setCell ⟨W0.heap.size, 3, none⟩ (.int .i64 y3)) (upd vals 4 (vals 4)) := by
        have h4 := (((hr.put 0 (.string y0)).put 1 (.int .i64 y1)).put 2 (.int .i64 y2)).put 3 (.int .i64 y3)
        have c4 := (((hW.curs.put hr (by decide) HB.out 0 (.string y0)).put (hr.put 0 (.string y0)) (by decide) HB.out 1 (.int .i64 y1)).put ((hr.put 0 (.string y0)).put 1 (.int .i64 y1)) (by decide) HB.out 2 (.int .i64 y2)).put (((hr.put 0 (.string y0)).put 1 (.int .i64 y1)).put 2 (.int .i64 y2)) (by decide) HB.out 3 (.int .i64 y3)
        refine ⟨grown_put (grown_put (grown_put (grown_put hW.grown (Nat.le_refl _) _ _) (Nat.le_refl _) _ _) (Nat.le_refl _) _ _) (Nat.le_refl _) _ _, c4, ?_, by rw [upd_same rfl]; exact hW.fix⟩
        rw [if_pos rfl, hy0, hy1, hy2, hy3]
        simpa using h4
      clear hr
      unfold Oper.wp
      simp [go_sem, c0, f0]
      exact ⟨_, hN⟩
    simp only [Act.put]
    exact trivial
  · intro ff W vals _ hJ
    simp only [putAll, List.map_cons, List.map_nil, JobX.val, Act.put, pA, pB, pC]
    have hr : Has W W0.heap.size 51 #[.string y0, .int .i64 y1, .int .i64 y2, .int .i64 y3] := by
      have := hJ.res
      rw [if_pos rfl, hy0, hy1, hy2, hy3] at this
      exact this
    have HR := hidden hr
    have HG := hidden hJ.grown
    have HC := hidden hJ.curs
    clear hr hJ
    go_wp2_with fail
    refine bodyPost_ret (results_cell_row rfl _ _ W0.heap.size 51 #[.string y0, .int .i64 y1, .int .i64 y2, .int .i64 y3] (0, 0) _ rfl HR.out Tryz.underlying51 rfl (by kernel_rfl)) rfl ?_
    exact ⟨rfl, HC.out, HG.out⟩
open Go.RowKit
def scC (t : List Int) (c : Cu) : Nat → Cu
  | 0 => c
  | 1 => c.named t
  | 2 => (c.named t).past 1
  | _ => ((c.named t).past 1).past 1
structure JS1 (W0 : World) (B g : Nat) (vt : Value) (S : C5) (nm : ByteArray) (kd al : Int) (k : Nat) (f : Bool) (W : World) (vals : Nat → Value) : Prop where
  grown : W0.grownBy W (some g)
  curs : Curs W B g vt { S with s := scC S.t S.s k }
  res : Has W W0.heap.size 48 #[.string ⟨#[]⟩, .int .i64 0, .int .i64 0, .slice none 0 0, .int .i64 0, .slice none 0 0]
  fix : vals 0 = .string nm ∧ vals 1 = .int .i64 kd ∧ vals 2 = .int .i64 al
  ord : k = 4 → f = true
  obj : f = true → ∃ q, vals 4 = .pointer (some ⟨q, 0, none⟩) ∧ W0.heap.size < q ∧ Has W q 48 (if k = 4 then #[.string nm, .int .i64 kd, .int .i64 al, .slice none 0 0, .int .i64 0, .slice none 0 0] else #[.string ⟨#[]⟩, .int .i64 0, .int .i64 0, .slice none 0 0, .int .i64 0, .slice none 0 0])
section
variable {W0 W W' : World} {B g : Nat} {vt : Value} {S : C5} {nm : ByteArray} {kd al : Int} {k : Nat} {f : Bool} {vals : Nat → Value}
theorem JS1.call (h : JS1 W0 B g vt S nm kd al k f W vals) (hk : k < 3) {u : Value} (hc : Curs W' B g vt { S with s := scC S.t S.s (k + 1) }) (hg : W.grownBy W' (some g)) (hv : vals k = u) : JS1 W0 B g vt S nm kd al (k + 1) f W' (upd vals k u) := by
  rw [upd_same hv]
  refine ⟨grown_trans h.grown hg, hc, h.res.grown hg (curs_ne h.curs h.res (by decide)), h.fix, fun e => by omega, fun hf => ?_⟩
  obtain ⟨q, h1, h2, h3⟩ := h.obj hf
  have h4 := h3.grown hg (curs_ne h.curs h3 (by decide))
  rw [if_neg (by omega)] at h4
  exact ⟨q, h1, h2, by rw [if_neg (by omega)]; exact h4⟩
theorem JS1.new (h : JS1 W0 B g vt S nm kd al k false W vals) : JS1 W0 B g vt S nm kd al k true (W.alloc (.cells #[.string ⟨#[]⟩, .int .i64 0, .int .i64 0, .slice none 0 0, .int .i64 0, .slice none 0 0] 48)) (upd vals 4 (.pointer (some ⟨W.heap.size, 0, none⟩))) := by
  have hk : k ≠ 4 := fun e => by have := h.ord e; cases this
  refine ⟨grown_alloc h.grown _, h.curs.alloc _, h.res.alloc _, by simpa [upd] using h.fix, fun _ => rfl, fun _ => ⟨W.heap.size, by simp [upd], h.res.lt, ?_⟩⟩
  rw [if_neg hk]
  exact Has.new _ _ _
end
structure SecW (W0 : World) (B g q : Nat) (vt : Value) (S : C5) (W : World) (nm : ByteArray) (kd al sz : Int) (v1 v2 : Value) (bs : List Int) (fs : List Fx) : Prop where
  grown : W0.grownBy W (some g)
  curs : Curs W B g vt S
  low : B ≤ W0.heap.size
  res : Has W W0.heap.size 48 #[.string ⟨#[]⟩, .int .i64 0, .int .i64 0, .slice none 0 0, .int .i64 0, .slice none 0 0]
  lo : W0.heap.size < q
  sec : Has W q 48 #[.string nm, .int .i64 kd, .int .i64 al, v1, .int .i64 sz, v2]
  own1 : W.ownsRow W0.heap.size 5 1 v1 bs.length (bs.map (Value.int .u8))
  own2 : W.ownsRow W0.heap.size 65 4 v2 fs.length (flatF fs)
section
variable {W0 W W' : World} {B g q : Nat} {vt : Value} {S : C5} {nm : ByteArray} {kd al sz : Int} {v1 v2 : Value} {bs : List Int} {fs : List Fx}
theorem SecW.call (h : SecW W0 B g q vt S W nm kd al sz v1 v2 bs fs) {S' : C5} (hc : Curs W' B g vt S') (hg : W.grownBy W' (some g)) : SecW W0 B g q vt S' W' nm kd al sz v1 v2 bs fs := by
  obtain ⟨cs, hh⟩ := h.curs.has
  exact ⟨grown_trans h.grown hg, hc, h.low, h.res.grown hg (curs_ne h.curs h.res (by decide)), h.lo, h.sec.grown hg (curs_ne h.curs h.sec (by decide)), h.own1.kept hg (row_apart h.own1 hh (by decide)), h.own2.kept hg (row_apart h.own2 hh (by decide))⟩
theorem SecW.alloc (h : SecW W0 B g q vt S W nm kd al sz v1 v2 bs fs) (o : Obj) : SecW W0 B g q vt S (W.alloc o) nm kd al sz v1 v2 bs fs :=
  ⟨grown_alloc h.grown o, h.curs.alloc o, h.low, h.res.alloc o, h.lo, h.sec.alloc o, World.ownsRow.alloc h.own1 o, World.ownsRow.alloc h.own2 o⟩
theorem SecW.drew (h : SecW W0 B g q vt S W nm kd al sz v1 v2 bs fs) : SecW W0 B g q vt S W.drew nm kd al sz v1 v2 bs fs :=
  ⟨grown_drew h.grown, h.curs.drew, h.low, h.res.drew, h.lo, h.sec.drew, h.own1.kept (row := none) ⟨rfl, rfl, rfl, Nat.le_refl _, fun _ _ _ => rfl⟩ (Classical.em _), h.own2.kept (row := none) ⟨rfl, rfl, rfl, Nat.le_refl _, fun _ _ _ => rfl⟩ (Classical.em _)⟩
theorem SecW.size (h : SecW W0 B g q vt S W nm kd al sz v1 v2 bs fs) (z : Int) : SecW W0 B g q vt S (W.setCell ⟨q, 4, none⟩ (.int .i64 z)) nm kd al z v1 v2 bs fs :=
  have hg : W.grownBy (W.setCell ⟨q, 4, none⟩ (.int .i64 z)) (some q) := only_put' 4 _
  ⟨grown_put h.grown (Nat.le_of_lt h.lo) _ _, h.curs.put h.sec (by decide) (Nat.le_trans h.low (Nat.le_of_lt h.lo)) _ _, h.low, h.res.away (by have := h.lo; show _ ≠ q; omega) _, h.lo, h.sec.put 4 _, h.own1.kept hg (row_apart h.own1 h.sec (by decide)), h.own2.kept hg (row_apart h.own2 h.sec (by decide))⟩
theorem SecW.bytes (h : SecW W0 B g q vt S W nm kd al sz v1 v2 bs fs) {v' : Value} {bs' : List Int} (hr : W.ownsRow W0.heap.size 5 1 v' bs'.length (bs'.map (Value.int .u8))) : SecW W0 B g q vt S (W.setCell ⟨q, 3, none⟩ v') nm kd al sz v' v2 bs' fs :=
  have hg : W.grownBy (W.setCell ⟨q, 3, none⟩ v') (some q) := only_put' 3 _
  ⟨grown_put h.grown (Nat.le_of_lt h.lo) _ _, h.curs.put h.sec (by decide) (Nat.le_trans h.low (Nat.le_of_lt h.lo)) _ _, h.low, h.res.away (by have := h.lo; show _ ≠ q; omega) _, h.lo, h.sec.put 3 _, hr.kept hg (row_apart hr h.sec (by decide)), h.own2.kept hg (row_apart h.own2 h.sec (by decide))⟩
theorem SecW.made (h : SecW W0 B g q vt S W nm kd al sz v1 v2 bs fs) (hg : W.grownBy W' none) : SecW W0 B g q vt S W' nm kd al sz v1 v2 bs fs :=
  ⟨grown_later h.grown hg (by simp), h.curs.kept hg (by simp) (by simp), h.low, h.res.grown hg (by simp), h.lo, h.sec.grown hg (by simp), h.own1.kept hg (Classical.em _), h.own2.kept hg (Classical.em _)⟩
theorem SecW.fixup (h : SecW W0 B g q vt S W nm kd al sz v1 v2 bs fs) {v' : Value} {x : Fx} (hg0 : W.grownBy W' v2.ownBlock) (hr : W'.ownsRow W0.heap.size 65 4 v' (fs.length + 1) (flatF fs ++ [.int .i64 x.pl, .int .i64 x.kind, .int .i64 x.to, .int .i64 x.add])) :
    Has W' q 48 #[.string nm, .int .i64 kd, .int .i64 al, v1, .int .i64 sz, v2] ∧ SecW W0 B g q vt S (W'.setCell ⟨q, 5, none⟩ v') nm kd al sz v1 v' bs (fs ++ [x]) := by
  have hs : Has W' q 48 #[.string nm, .int .i64 kd, .int .i64 al, v1, .int .i64 sz, v2] := h.sec.grown hg0 (h.sec.other h.own2 (by decide))
  have hre : Has W' W0.heap.size 48 #[.string ⟨#[]⟩, .int .i64 0, .int .i64 0, .slice none 0 0, .int .i64 0, .slice none 0 0] := h.res.grown hg0 (h.res.other h.own2 (by decide))
  have hg : W'.grownBy (W'.setCell ⟨q, 5, none⟩ v') (some q) := only_put' 5 _
  have o1 : W'.ownsRow W0.heap.size 5 1 v1 bs.length (bs.map (Value.int .u8)) := h.own1.kept hg0 (rows_apart h.own1 h.own2 (by decide))
  have hgr := grown_later h.grown hg0 (fun j e => (h.own2.lt j e).1)
  have hc := h.curs.row h.own2 (by decide) h.low hg0
  refine ⟨hs, grown_put hgr (Nat.le_of_lt h.lo) _ _, hc.put hs (by decide) (Nat.le_trans h.low (Nat.le_of_lt h.lo)) _ _, h.low, hre.away (by have := h.lo; show _ ≠ q; omega) _, h.lo, hs.put 5 _, o1.kept hg (row_apart o1 hs (by decide)), ?_⟩
  rw [flatF_snoc, List.length_append]
  exact World.ownsRow.kept hr hg (row_apart hr hs (by decide))
end
theorem own_slice {W : World} {base : Nat} {T : TypeId} {size : Nat} {v : Value} {n : Nat} {xs : List Value} (h : W.ownsRow base T size v n xs) : ∃ a c, v = .slice a n c := by
  rcases h.2 with ⟨rfl, h0⟩ | ⟨k, cap, cur, rfl, _⟩
  · exact ⟨none, 0, by rw [h0]⟩
  · exact ⟨_, _, rfl⟩
def JS5 (W0 : World) (B g q : Nat) (vt : Value) (S : C5) (nm : ByteArray) (kd al : Int) (n : Nat) (k : Nat) (_f : Bool) (W : World) (vals : Nat → Value) : Prop :=
  match k with
  | 0 => SecW W0 B g q vt S W nm kd al 0 (.slice none 0 0) (.slice none 0 0) [] []
  | 1 => SecW W0 B g q vt { S with b := S.b.past n } W nm kd al 0 (.slice none 0 0) (.slice none 0 0) [] [] ∧ SlV W B (S.b.cut n) (vals 0)
  | 2 => SecW W0 B g q vt { S with b := S.b.past n } W nm kd al 0 (.slice none 0 0) (.slice none 0 0) [] [] ∧ RowI W W0.heap.size (vals 1) (S.b.cut n).length (S.b.cut n)
  | _ => ∃ v, SecW W0 B g q vt { S with b := S.b.past n } W nm kd al 0 v (.slice none 0 0) (S.b.cut n) []
theorem JS5.sec {W0 W : World} {B g q : Nat} {vt : Value} {S : C5} {nm : ByteArray} {kd al : Int} {n k : Nat} {f : Bool} {vals : Nat → Value} (h : JS5 W0 B g q vt S nm kd al n k f W vals) (hk : k ≤ 2) : Has W q 48 #[.string nm, .int .i64 kd, .int .i64 al, .slice none 0 0, .int .i64 0, .slice none 0 0] := by
  match k, h, hk with
  | 0, h, _ => exact SecW.sec h
  | 1, h, _ => exact SecW.sec h.1
  | 2, h, _ => exact SecW.sec h.1
  | k + 3, _, hk => exact absurd hk (by omega)
def JS8 (W0 : World) (B g q : Nat) (vt : Value) (S : C5) (nm : ByteArray) (kd al sz : Int) (v1 v2 : Value) (bs : List Int) (fs : List Fx) (x : Fx) (k : Nat) (_f : Bool) (W : World) (vals : Nat → Value) : Prop :=
  match k with
  | 0 => SecW W0 B g q vt S W nm kd al sz v1 v2 bs fs
  | 1 => SecW W0 B g q vt { S with f := fixPast S.f } W nm kd al sz v1 v2 bs fs ∧ vals 0 = .agg #[.int .i64 x.pl, .int .i64 x.kind, .int .i64 x.to, .int .i64 x.add]
  | 2 => SecW W0 B g q vt { S with f := fixPast S.f } W nm kd al sz v1 v2 bs fs ∧ ∃ b, vals 1 = .slice (some ⟨b, 0, none⟩) 1 1 ∧ Has W b 65 #[.int .i64 x.pl, .int .i64 x.kind, .int .i64 x.to, .int .i64 x.add]
  | 3 => ∃ a c, vals 2 = .slice a (fs.length + 1) c ∧ Has W q 48 #[.string nm, .int .i64 kd, .int .i64 al, v1, .int .i64 sz, v2] ∧ SecW W0 B g q vt { S with f := fixPast S.f } (W.setCell ⟨q, 5, none⟩ (.slice a (fs.length + 1) c)) nm kd al sz v1 (.slice a (fs.length + 1) c) bs (fs ++ [x])
  | _ => ∃ v, SecW W0 B g q vt { S with f := fixPast S.f } W nm kd al sz v1 v bs (fs ++ [x])
theorem JS8.sec {W0 W : World} {B g q : Nat} {vt : Value} {S : C5} {nm : ByteArray} {kd al sz : Int} {v1 v2 : Value} {bs : List Int} {fs : List Fx} {x : Fx} {k : Nat} {f : Bool} {vals : Nat → Value} (h : JS8 W0 B g q vt S nm kd al sz v1 v2 bs fs x k f W vals) (hk : k ≤ 3) : Has W q 48 #[.string nm, .int .i64 kd, .int .i64 al, v1, .int .i64 sz, v2] := by
  match k, h, hk with
  | 0, h, _ => exact SecW.sec h
  | 1, h, _ => exact SecW.sec h.1
  | 2, h, _ => exact SecW.sec h.1
  | 3, h, _ => obtain ⟨_, _, _, h, _⟩ := h; exact h
  | k + 4, _, hk => exact absurd hk (by omega)
structure SecN (S : C5) (nm : ByteArray) (kd al : Int) (n N : Nat) : Prop where
  nm : S.s.name S.t = nm
  kd : S.three.kind S.t = kd
  al : S.three.align S.t = al
  sz : S.three.size S.t = (n : Int)
  many : S.three.many S.t = N
  manyI : (S.three.k4 S.t).num 1 = (N : Int)
  n255 : n ≤ 255
  m255 : N ≤ 255
structure ScRd (W0 : World) (B g : Nat) (vt : Value) (S : C5) (e : Ending) (W : World) (y : Sp) : Prop where
  is : y.s = secAt S.t S.three
  ret : e = .returned (.agg #[.string y.s.name, .int .i64 y.s.kind, .int .i64 y.s.align, .slice y.a1 y.s.bytes.length y.c1, .int .i64 y.s.size, .slice y.a2 y.s.fixs.length y.c2])
  own1 : W.ownsRow W0.heap.size 5 1 (.slice y.a1 y.s.bytes.length y.c1) y.s.bytes.length (y.s.bytes.map (Value.int .u8))
  own2 : W.ownsRow W0.heap.size 65 4 (.slice y.a2 y.s.fixs.length y.c2) y.s.fixs.length (flatF y.s.fixs)
  curs : Curs W B g vt { S with s := (secPast S.t S.three).s, f := (secPast S.t S.three).f, b := (secPast S.t S.three).b }
  grown : W0.grownBy W (some g)
set_option maxRecDepth 100000 in
set_option maxHeartbeats 8000000 in
theorem section_any (W0 : World) (B g : Nat) (vt : Value) (S : C5) (h : Curs W0 B g vt S) (hw : S.three.wf) :
    Calls Tryz.prog 78 #[.pointer (some ⟨g, 0, none⟩)] W0 fun e W => ∃ y, ScRd W0 B g vt S e W y := by
  obtain ⟨nm, hnm⟩ : ∃ y, S.s.name S.t = y := ⟨_, rfl⟩
  obtain ⟨kd, hkd⟩ : ∃ y, S.three.kind S.t = y := ⟨_, rfl⟩
  obtain ⟨al, hal⟩ : ∃ y, S.three.align S.t = y := ⟨_, rfl⟩
  obtain ⟨-, -, ⟨hs0, hs1⟩, hm255, -⟩ := sec_nums hw S.t
  obtain ⟨n, hn⟩ : ∃ n, (S.three.size S.t).toNat = n := ⟨_, rfl⟩
  have hsz : S.three.size S.t = (n : Int) := by omega
  have hn255 : n ≤ 255 := by omega
  obtain ⟨N, hN⟩ : ∃ N, S.three.many S.t = N := ⟨_, rfl⟩
  have hmany : (S.three.k4 S.t).num 1 = (N : Int) := by
    have := (S.three.k4 S.t).num_nonneg 1
    rw [← hN]; unfold C3.many; omega
  rw [hN] at hm255
  have HLB : Hid ((S.b.cut n).length ≤ 255) := by show _ ≤ _; have := cut_length S.b n; omega
  have HWF : Hid (∀ x ∈ S.f.left, (Lit.int .u8 x).wf = true) := hw.f
  have hlow := h.size
  have HLOW := hidden hlow
  have hJ : Hid (JS1 W0 B g vt S nm kd al 0 false ((W0.alloc (.cells #[.string ⟨#[]⟩, .int .i64 0, .int .i64 0, .slice none 0 0, .int .i64 0, .slice none 0 0] 48)).drew) fun i => if i = 0 then .string nm else if i = 1 then .int .i64 kd else .int .i64 al) :=
    ⟨grown_drew (grown_alloc (grown_self W0 g) _), (h.alloc _).drew, (Has.new _ _ _).drew, ⟨rfl, rfl, rfl⟩, (fun e => absurd e (by decide)), (fun e => absurd e (by decide))⟩
  have e0 : (scC S.t S.s 0).name S.t = nm := hnm
  have e1 : (scC S.t S.s 1).num 1 = kd := hkd
  have e2 : (scC S.t S.s 2).num 1 = al := hal
  have e3 : (scC S.t S.s 3).num 1 = (n : Int) := hsz
  have HSN : SecN S nm kd al n N := ⟨hnm, hkd, hal, hsz, hN, hmany, hn255, hm255⟩
  clear h hw hs0 hs1 hsz hlow e3 hn255 hm255 hnm hkd hal hn hN hmany
  go_enter Tryz.func78, Tryz.ntmps78
  go_upto_region 1 with fail
  refine wp_region_free (m := 4) (js := [.quiet (.pointer (some ⟨g, 0, none⟩)) 0 4, .quiet (.pointer (some ⟨g, 0, none⟩)) 0 4, .quiet (.pointer (some ⟨g, 0, none⟩)) 0 4, .quiet (.pointer (some ⟨g, 0, none⟩)) 0 4, .quiet (.pointer (some ⟨g, 0, none⟩)) 0 4, .quiet (.pointer (some ⟨g, 8, none⟩)) 0 4, .quiet (vt) 0 4, .chain 0 false, .quiet (.pointer (some ⟨g, 0, none⟩)) 0 4, .quiet (.pointer (some ⟨g, 0, none⟩)) 0 4, .quiet (.pointer (some ⟨g, 0, none⟩)) 0 4, .chain 1 false, .quiet (.pointer (some ⟨g, 0, none⟩)) 0 4, .quiet (.pointer (some ⟨g, 0, none⟩)) 0 4, .quiet (.pointer (some ⟨g, 0, none⟩)) 0 4, .chain 2 false, .quiet (.agg #[.string nm, .int .i64 kd, .int .i64 al, .slice none 0 0, .int .i64 0, .slice none 0 0]) 0 4, .free 4, .chain 3 true]) (by kernel_rfl) (JS1 W0 B g vt S nm kd al) (by kernel_rfl) (by kernel_rfl) ⟨_, hJ.out⟩ (fun vals => ?_) ?_
  · show SeqX _ _ _ _ _ _ _
    iterate 6
      refine ⟨fun kk hlo hhi ff W hW => ?_, ?_⟩
      · unfold Oper.wp
        simp [go_sem]
        try exact ⟨_, rfl, rfl⟩
      simp only [Act.put, JobX.val, pA, pB, pC]
    refine ⟨fun kk hlo hhi ff W hW => ?_, ?_⟩
    · have q8 := hW.curs.table.1
      unfold Oper.wp
      simp [go_sem, q8]
      try exact ⟨_, rfl, rfl⟩
    simp only [Act.put, JobX.val, pA, pB, pC]
    refine ⟨fun ff W hwt hW => ?_, ?_⟩
    · unfold Oper.wp
      simp [go_sem]
      refine (curs_name hW.curs 0 (by decide)).mono ?_
      rintro e w' ⟨rfl, hc, hg⟩
      have hN : JS1 W0 B g vt S nm kd al 1 ff w' (upd vals 0 (.string nm)) := hW.call (by decide) hc hg (by have := hW.fix; simp_all)
      have he : ({ S with s := scC S.t S.s 0 } : C5).at 0 = scC S.t S.s 0 := rfl
      rw [he]
      have hv : (scC S.t S.s 0).name S.t = nm := e0
      rw [hv]
      first | exact hN | exact ⟨_, rfl, hN⟩
    simp only [Act.put, JobX.val, pA, pB, pC]
    iterate 3
      refine ⟨fun kk hlo hhi ff W hW => ?_, ?_⟩
      · unfold Oper.wp
        simp [go_sem]
        try exact ⟨_, rfl, rfl⟩
      simp only [Act.put, JobX.val, pA, pB, pC]
    refine ⟨fun ff W hwt hW => ?_, ?_⟩
    · unfold Oper.wp
      simp [go_sem]
      refine (curs_num hW.curs 0 (by decide) 1 (by decide)).mono ?_
      rintro e w' ⟨rfl, hc, hg⟩
      have hN : JS1 W0 B g vt S nm kd al 2 ff w' (upd vals 1 (.int .i64 kd)) := hW.call (by decide) hc hg (by have := hW.fix; simp_all)
      have he : ({ S with s := scC S.t S.s 1 } : C5).at 0 = scC S.t S.s 1 := rfl
      rw [he]
      have hv : (scC S.t S.s 1).num 1 = kd := e1
      rw [hv]
      first | exact hN | exact ⟨_, rfl, hN⟩
    simp only [Act.put, JobX.val, pA, pB, pC]
    iterate 3
      refine ⟨fun kk hlo hhi ff W hW => ?_, ?_⟩
      · unfold Oper.wp
        simp [go_sem]
        try exact ⟨_, rfl, rfl⟩
      simp only [Act.put, JobX.val, pA, pB, pC]
    refine ⟨fun ff W hwt hW => ?_, ?_⟩
    · unfold Oper.wp
      simp [go_sem]
      refine (curs_num hW.curs 0 (by decide) 1 (by decide)).mono ?_
      rintro e w' ⟨rfl, hc, hg⟩
      have hN : JS1 W0 B g vt S nm kd al 3 ff w' (upd vals 2 (.int .i64 al)) := hW.call (by decide) hc hg (by have := hW.fix; simp_all)
      have he : ({ S with s := scC S.t S.s 2 } : C5).at 0 = scC S.t S.s 2 := rfl
      rw [he]
      have hv : (scC S.t S.s 2).num 1 = al := e2
      rw [hv]
      first | exact hN | exact ⟨_, rfl, hN⟩
    simp only [Act.put, JobX.val, pA, pB, pC]
    refine ⟨fun kk hlo hhi ff W hW => ?_, ?_⟩
    · obtain ⟨q0, q1, q2⟩ := hW.fix
      unfold Oper.wp
      simp [go_sem, q0, q1, q2]
      try exact ⟨_, rfl, rfl⟩
    simp only [Act.put, JobX.val, pA, pB, pC]
    refine ⟨fun kk W hW => ?_, ?_⟩
    · have hN := hW.new
      unfold Oper.wp
      simp [go_sem]
      first | exact hN | exact ⟨_, rfl, hN⟩ | exact ⟨_, hN⟩
    simp only [Act.put, JobX.val, pA, pB, pC]
    refine ⟨fun ff W hwt hW => ?_, ?_⟩
    · obtain rfl := hwt rfl
      obtain ⟨q, hv4, hq, hh⟩ := hW.obj rfl
      rw [if_neg (by decide)] at hh
      obtain ⟨hx0, hx1, hx2⟩ := hW.fix
      have f0 := hh.free
      have c0 := hh.cell
      have hq' : W0.heap.size ≤ q := Nat.le_of_lt hq
      have hne : W0.heap.size ≠ q := Nat.ne_of_lt hq
      have hlo' : B ≤ q := Nat.le_trans HLOW.out hq'
      have hN : JS1 W0 B g vt S nm kd al 4 true ((((((W.setCell ⟨q, 0, none⟩ (.string nm)).setCell ⟨q, 1, none⟩ (.int .i64 kd)).setCell ⟨q, 2, none⟩ (.int .i64 al)).setCell ⟨q, 3, none⟩ (.slice none 0 0)).setCell ⟨q, 4, none⟩ (.int .i64 0)).setCell ⟨q, 5, none⟩ (.slice none 0 0)) (upd vals 3 (vals 3)) := by
        rw [upd_same rfl]
        refine ⟨(grown_put (grown_put (grown_put (grown_put (grown_put (grown_put hW.grown hq' _ _) hq' _ _) hq' _ _) hq' _ _) hq' _ _) hq' _ _), ((((((hW.curs.put hh (by decide) hlo' 0 (.string nm)).put (hh.put 0 (.string nm)) (by decide) hlo' 1 (.int .i64 kd)).put ((hh.put 0 (.string nm)).put 1 (.int .i64 kd)) (by decide) hlo' 2 (.int .i64 al)).put (((hh.put 0 (.string nm)).put 1 (.int .i64 kd)).put 2 (.int .i64 al)) (by decide) hlo' 3 (.slice none 0 0)).put ((((hh.put 0 (.string nm)).put 1 (.int .i64 kd)).put 2 (.int .i64 al)).put 3 (.slice none 0 0)) (by decide) hlo' 4 (.int .i64 0)).put (((((hh.put 0 (.string nm)).put 1 (.int .i64 kd)).put 2 (.int .i64 al)).put 3 (.slice none 0 0)).put 4 (.int .i64 0)) (by decide) hlo' 5 (.slice none 0 0)), ((((((hW.res.away hne _).away hne _).away hne _).away hne _).away hne _).away hne _), hW.fix, fun _ => rfl, fun _ => ⟨q, hv4, hq, ?_⟩⟩
        rw [if_pos rfl]
        have h6 := ((((((hh.put 0 (.string nm)).put 1 (.int .i64 kd)).put 2 (.int .i64 al)).put 3 (.slice none 0 0)).put 4 (.int .i64 0)).put 5 (.slice none 0 0))
        simpa using h6
      rw [hv4]
      clear hh hW hv4
      unfold Oper.wp
      simp [go_sem, c0, f0]
      exact ⟨_, hN⟩
    simp only [Act.put]
    exact trivial
  · intro ff W vals hfree hJ1
    obtain ⟨q, hv4, hq, hh⟩ := hJ1.obj (hfree rfl)
    rw [if_pos rfl] at hh
    have HS := hidden (⟨hJ1.grown, hJ1.curs, HLOW.out, hJ1.res, hq, hh, World.ownsRow_nil _ _ _ _, World.ownsRow_nil _ _ _ _⟩ : SecW W0 B g q vt { S with s := scC S.t S.s 4 } W nm kd al 0 (.slice none 0 0) (.slice none 0 0) [] [])
    simp only [putAll, List.map_cons, List.map_nil, JobX.val, Act.put, pA, pB, pC]
    rw [hv4]
    clear hh hv4 hJ1 hfree hJ e0 e1 e2 hq
    have HC := hidden (curs_num HS.out.curs 0 (by decide) 1 (by decide))
    go_wp2_with fail
    refine HC.out.mono ?_
    clear HC
    rintro e w1 ⟨rfl, hc1, hg1⟩
    have hE : (({ S with s := scC S.t S.s 4 } : C5).at 0).num 1 = (n : Int) := HSN.sz
    rw [hE]
    have HS1 : Hid (SecW W0 B g q vt { S with s := S.three.k4 S.t } w1 nm kd al 0 (.slice none 0 0) (.slice none 0 0) [] []) := HS.out.call hc1 hg1
    have p1 : w1.cell? ⟨q, 1, none⟩ = some (.int .i64 kd) := HS1.out.sec.cell 1
    clear hE hc1 hg1 HS
    go_upto_if 28 with fail
    go_cut [] from 4 (fun wx => ∃ (v1 : Value) (bs : List Int) (sz : Int) (b2 : Cu), Hid (bs = S.three.bytes S.t ∧ sz = (if kd = 3 then (n : Int) else 0) ∧ b2 = (secPast S.t S.three).b) ∧ Hid (SecW W0 B g q vt { S with s := S.three.k4 S.t, b := b2 } wx nm kd al sz v1 (.slice none 0 0) bs []))
    case first =>
      by_cases hk : kd = 3
      · have p4 : w1.cell? ⟨q, 4, none⟩ = some (.int .i64 0) := HS1.out.sec.cell 4
        have f4 := HS1.out.sec.free 4
        have HF := hidden (HS1.out.size (n : Int))
        have HB : Hid (([] : List Int) = S.three.bytes S.t ∧ (n : Int) = (if kd = 3 then (n : Int) else 0) ∧ S.b = (secPast S.t S.three).b) := ⟨by unfold C3.bytes; rw [HSN.kd, if_pos hk], by rw [if_pos hk], by dsimp only [secPast]; rw [HSN.kd, if_pos hk]; dsimp only [C5.three]⟩
        clear HS1
        subst hk
        go_wp2_with fail
        go_meet
        exact ⟨_, _, _, S.b, HB, HF⟩
      · have hk3 : (kd == 3) = false := by simp [hk]
        have HJ : Hid (JS5 W0 B g q vt { S with s := S.three.k4 S.t } nm kd al n 0 false w1.drew fun _ => undef) := HS1.out.drew
        have HB : Hid (S.b.cut n = S.three.bytes S.t ∧ (0 : Int) = (if kd = 3 then (n : Int) else 0) ∧ S.b.past n = (secPast S.t S.three).b) := ⟨by unfold C3.bytes; rw [HSN.kd, if_neg hk, HSN.sz, Int.toNat_natCast]; rfl, by rw [if_neg hk], by unfold secPast; simp only; rw [HSN.kd, if_neg hk, HSN.sz, Int.toNat_natCast]; dsimp only [C5.three]⟩
        clear HS1 hk
        go_upto_region 5 with fail
        refine wp_region_free (m := 3) (js := [.quiet (.pointer (some ⟨q, 3, none⟩)) 0 3, .quiet (.slice none 0 0) 0 1, .quiet (.pointer (some ⟨g, 0, none⟩)) 0 3, .quiet (.pointer (some ⟨g, 0, none⟩)) 0 3, .quiet (.pointer (some ⟨g, 6, none⟩)) 0 3, .quiet (.int .i64 (n : Int)) 0 3, .chain 0 false, .chain 1 false, .quiet (.pointer (some ⟨q, 3, none⟩)) 0 3, .chain 2 false]) (by kernel_rfl) (JS5 W0 B g q vt { S with s := S.three.k4 S.t } nm kd al n) (by kernel_rfl) (by kernel_rfl) ⟨_, HJ.out⟩ (fun vals => ?_) ?_
        · show SeqX _ _ _ _ _ _ _
          refine ⟨fun kk hlo hhi ff W hW => ?_, ?_⟩
          · unfold Oper.wp
            simp [go_sem]
            try exact ⟨_, rfl, rfl⟩
          simp only [Act.put, JobX.val, pA, pB, pC]
          refine ⟨fun kk hlo hhi ff W hW => ?_, ?_⟩
          · have q3 : W.cell? ⟨q, 3, none⟩ = some (.slice none 0 0) := (JS5.sec hW (by omega)).cell 3
            unfold Oper.wp
            simp [go_sem, q3]
            try exact ⟨_, rfl, rfl⟩
          simp only [Act.put, JobX.val, pA, pB, pC]
          iterate 4
            refine ⟨fun kk hlo hhi ff W hW => ?_, ?_⟩
            · unfold Oper.wp
              simp [go_sem]
              try exact ⟨_, rfl, rfl⟩
            simp only [Act.put, JobX.val, pA, pB, pC]
          refine ⟨fun ff W hwt hW => ?_, ?_⟩
          · unfold Oper.wp
            simp [go_sem]
            have hW0 : SecW W0 B g q vt { S with s := S.three.k4 S.t } W nm kd al 0 (.slice none 0 0) (.slice none 0 0) [] [] := hW
            refine (curs_take hW0.curs n (by have := HSN.n255; omega)).mono ?_
            rintro e w' ⟨⟨v, rfl, hv⟩, hc, hg⟩
            have hN : JS5 W0 B g q vt { S with s := S.three.k4 S.t } nm kd al n 1 ff w' (upd vals 0 v) := ⟨hW0.call hc hg, by simpa [upd] using hv⟩
            first | exact hN | exact ⟨_, rfl, hN⟩
          simp only [Act.put, JobX.val, pA, pB, pC]
          refine ⟨fun ff W hwt hW => ?_, ?_⟩
          · obtain ⟨hW1, hv⟩ := hW
            obtain ⟨ad, cc, hv, hi, -, -⟩ := hv
            refine wp_append_ints _ _ rfl W0.heap.size (.slice none 0 0) 0 [] rfl (World.ownsRow_nil _ _ _ _) ad (S.b.cut n).length cc B (S.b.cut n) rfl hv hi (by have := HLB.out; omega) (Nat.le_of_lt hW1.res.lt) ?_
            intro v' w' h1 h2
            rw [Nat.zero_add, List.nil_append] at h1
            exact ⟨v', rfl, (⟨hW1.made h2, by simpa [upd] using h1⟩ : JS5 W0 B g q vt { S with s := S.three.k4 S.t } nm kd al n 2 ff w' (upd vals 1 v'))⟩
          simp only [Act.put, JobX.val, pA, pB, pC]
          refine ⟨fun kk hlo hhi ff W hW => ?_, ?_⟩
          · unfold Oper.wp
            simp [go_sem]
            try exact ⟨_, rfl, rfl⟩
          simp only [Act.put, JobX.val, pA, pB, pC]
          refine ⟨fun ff W hwt hW => ?_, ?_⟩
          · obtain ⟨hW2, hr⟩ := hW
            obtain ⟨ad, cc, hv⟩ := own_slice hr
            rw [hv] at hr
            have q3 : W.cell? ⟨q, 3, none⟩ = some (.slice none 0 0) := hW2.sec.cell 3
            have f3 := hW2.sec.free 3
            have hs := hW2.bytes hr
            have hN : ∀ u, JS5 W0 B g q vt { S with s := S.three.k4 S.t } nm kd al n 3 ff (W.setCell ⟨q, 3, none⟩ (.slice ad (S.b.cut n).length cc)) (upd vals 2 u) := fun u => ⟨_, hs⟩
            rw [hv]
            clear hs hW2 hr hv
            unfold Oper.wp
            simp [go_sem, q3, f3]
            first | exact hN _ | exact ⟨undef, hN _⟩ | exact ⟨_, rfl, hN _⟩
          simp only [Act.put]
          exact trivial
        · intro ff W vals _ hJ5
          obtain ⟨v, hs⟩ := hJ5
          have HF := hidden hs
          simp only [putAll, List.map_cons, List.map_nil, JobX.val, Act.put, pA, pB, pC]
          clear hs HJ
          go_wp2_with fail
          go_meet
          exact ⟨_, _, _, _, HB, HF⟩
    case rest =>
      obtain ⟨v1, bs, sz, b2, HBS, HS2⟩ := hcut
      clear HS1 p1
      have HC := hidden (curs_num HS2.out.curs 0 (by decide) 1 (by decide))
      go_wp2_with fail
      refine HC.out.mono ?_
      clear HC
      rintro e w2 ⟨rfl, hc2, hg2⟩
      simp only [C5.at0, C5.with0] at hc2 ⊢
      rw [HSN.manyI]
      have HS3 : Hid (SecW W0 B g q vt { S with s := (S.three.k4 S.t).past 1, f := fixP S.f 0, b := b2 } w2 nm kd al sz v1 (.slice none 0 0) bs (fixL S.f 0)) := HS2.out.call hc2 hg2
      clear hc2 hg2 HS2
      go_wp2_with fail
      go_loopw [44] (fun i wr => ∃ (j : Nat) (v2 : Value), i = .int .i64 j ∧ j ≤ N ∧ Hid (SecW W0 B g q vt { S with s := (S.three.k4 S.t).past 1, f := fixP S.f j, b := b2 } wr nm kd al sz v1 v2 bs (fixL S.f j))) (fun i _ => N - (intOf i).toNat)
      case atStart => exact ⟨0, _, rfl, Nat.zero_le _, HS3⟩
      case round =>
        obtain ⟨j, v2, rfl, hj, hs⟩ := hrel
        clear HS3
        by_cases hlt : j < N
        · have hi : (j : Int) < (N : Int) := by omega
          obtain ⟨x, hx⟩ : ∃ x, fixAt (fixP S.f j) = x := ⟨_, rfl⟩
          obtain ⟨fs, hfs⟩ : ∃ fs, fixL S.f j = fs := ⟨_, rfl⟩
          have hfl : fs.length = j := by rw [← hfs]; exact fixL_length _ _
          have HFX : Hid (fixL S.f (j + 1) = fs ++ [x]) := by show _ = _; rw [fixL, hfs, hx]
          have HFP : Hid (fixP S.f (j + 1) = fixPast (fixP S.f j)) := rfl
          have HWJ := hidden (fixP_wf HWF.out j)
          obtain ⟨fj, hfj⟩ : ∃ fj, fixP S.f j = fj := ⟨_, rfl⟩
          rw [hfj] at hx HFP HWJ
          rw [hfs, hfj] at hs
          obtain ⟨a2, c2, hv2⟩ := own_slice hs.out.own2
          subst hv2
          obtain ⟨i2, hi2, hx0, hx1, hx2⟩ := info_parts Tryz.info_fixup
          have hj255 := hidden (show fs.length ≤ 255 by have := HSN.m255; omega)
          have HJ : Hid (JS8 W0 B g q vt { S with s := (S.three.k4 S.t).past 1, f := fj, b := b2 } nm kd al sz v1 (.slice a2 fs.length c2) bs fs x 0 false wr.drew fun _ => undef) := hs.out.drew
          clear hs hfs hfj hfl
          go_upto_region 8 with fail
          refine wp_region_free (m := 4) (js := [.quiet (.pointer (some ⟨q, 5, none⟩)) 0 4, .quiet (.slice a2 fs.length c2) 0 2, .quiet (.pointer (some ⟨g, 0, none⟩)) 0 4, .chain 0 false, .chain 1 false, .chain 2 false, .quiet (.pointer (some ⟨q, 5, none⟩)) 0 4, .chain 3 false]) (by kernel_rfl) (JS8 W0 B g q vt { S with s := (S.three.k4 S.t).past 1, f := fj, b := b2 } nm kd al sz v1 (.slice a2 fs.length c2) bs fs x) (by kernel_rfl) (by kernel_rfl) ⟨_, HJ.out⟩ (fun vals => ?_) ?_
          · show SeqX _ _ _ _ _ _ _
            refine ⟨fun kk hlo hhi ff W hW => ?_, ?_⟩
            · unfold Oper.wp
              simp [go_sem]
              try exact ⟨_, rfl, rfl⟩
            simp only [Act.put, JobX.val, pA, pB, pC]
            refine ⟨fun kk hlo hhi ff W hW => ?_, ?_⟩
            · have q5 : W.cell? ⟨q, 5, none⟩ = some (.slice a2 fs.length c2) := (JS8.sec hW (by omega)).cell 5
              unfold Oper.wp
              simp [go_sem, q5]
              try exact ⟨_, rfl, rfl⟩
            simp only [Act.put, JobX.val, pA, pB, pC]
            refine ⟨fun kk hlo hhi ff W hW => ?_, ?_⟩
            · unfold Oper.wp
              simp [go_sem]
              try exact ⟨_, rfl, rfl⟩
            simp only [Act.put, JobX.val, pA, pB, pC]
            refine ⟨fun ff W hwt hW => ?_, ?_⟩
            · unfold Oper.wp
              simp [go_sem]
              have hW0 : SecW W0 B g q vt { S with s := (S.three.k4 S.t).past 1, f := fj, b := b2 } W nm kd al sz v1 (.slice a2 fs.length c2) bs fs := hW
              refine (fixup_any W B g vt _ hW0.curs HWJ.out).mono ?_
              rintro e w' ⟨rfl, hc, hg⟩
              have hN : JS8 W0 B g q vt { S with s := (S.three.k4 S.t).past 1, f := fj, b := b2 } nm kd al sz v1 (.slice a2 fs.length c2) bs fs x 1 ff w' (upd vals 0 (.agg #[.int .i64 x.pl, .int .i64 x.kind, .int .i64 x.to, .int .i64 x.add])) := ⟨hW0.call hc hg, by simp [upd]⟩
              have he : (fixAt ({ S with s := (S.three.k4 S.t).past 1, f := fj, b := b2 } : C5).f) = x := hx
              rw [he]
              first | exact hN | exact ⟨_, rfl, hN⟩
            simp only [Act.put, JobX.val, pA, pB, pC]
            refine ⟨fun ff W hwt hW => ?_, ?_⟩
            · obtain ⟨hW1, hv⟩ := hW
              have hN : JS8 W0 B g q vt { S with s := (S.three.k4 S.t).past 1, f := fj, b := b2 } nm kd al sz v1 (.slice a2 fs.length c2) bs fs x 2 ff (W.alloc (.cells #[.int .i64 x.pl, .int .i64 x.kind, .int .i64 x.to, .int .i64 x.add] 65)) (upd vals 1 (.slice (some ⟨W.heap.size, 0, none⟩) 1 1)) := ⟨hW1.alloc _, W.heap.size, by simp [upd], Has.new _ _ _⟩
              rw [hv]
              unfold Oper.wp
              simp [go_sem]
              first | exact hN | exact ⟨_, rfl, hN⟩
            simp only [Act.put, JobX.val, pA, pB, pC]
            refine ⟨fun ff W hwt hW => ?_, ?_⟩
            · obtain ⟨hW2, hb, hv, hh⟩ := hW
              refine wp_append_own W _ _ _ rfl W0.heap.size 65 i2 (.agg #[.int .i64 0, .int .i64 0, .int .i64 0, .int .i64 0]) 4 32 Tryz.underlying46 hi2 hx0 hx1 hx2 rfl (by decide) _ _ _ rfl hW2.own2 ⟨hb, 0, none⟩ 1 1 [.int .i64 x.pl, .int .i64 x.kind, .int .i64 x.to, .int .i64 x.add] hv ?_ ?_ ?_ ?_ ?_ ?_ ?_
              · rfl
              · intro t u ht
                rw [addr_row, hh.cell t]
                simpa using ht
              · intro u hu
                simp at hu
                rcases hu with rfl | rfl | rfl | rfl <;> rfl
              · have := hj255.out; unfold maxLen; omega
              · have := hj255.out; omega
              · exact Nat.le_of_lt hW2.res.lt
              · intro v' w' h2 h3 _
                obtain ⟨b3, d3, rfl⟩ := own_slice h2
                obtain ⟨q1, q2⟩ := hW2.fixup (x := x) h3 h2
                exact ⟨_, rfl, (⟨b3, d3, by simp [upd], q1, q2⟩ : JS8 W0 B g q vt { S with s := (S.three.k4 S.t).past 1, f := fj, b := b2 } nm kd al sz v1 (.slice a2 fs.length c2) bs fs x 3 ff w' (upd vals 2 (.slice b3 (fs.length + 1) d3)))⟩
            simp only [Act.put, JobX.val, pA, pB, pC]
            refine ⟨fun kk hlo hhi ff W hW => ?_, ?_⟩
            · unfold Oper.wp
              simp [go_sem]
              try exact ⟨_, rfl, rfl⟩
            simp only [Act.put, JobX.val, pA, pB, pC]
            refine ⟨fun ff W hwt hW => ?_, ?_⟩
            · obtain ⟨b3, d3, hv, q1, q2⟩ := hW
              have ck : W.cell? ⟨q, 5, none⟩ = some (.slice a2 fs.length c2) := q1.cell 5
              have fk := q1.free 5
              have hN : ∀ u, JS8 W0 B g q vt { S with s := (S.three.k4 S.t).past 1, f := fj, b := b2 } nm kd al sz v1 (.slice a2 fs.length c2) bs fs x 4 ff (W.setCell ⟨q, 5, none⟩ (.slice b3 (fs.length + 1) d3)) (upd vals 3 u) := fun u => ⟨_, q2⟩
              rw [hv]
              clear q1 q2 hv
              unfold Oper.wp
              simp [go_sem, ck, fk]
              first | exact hN _ | exact ⟨undef, hN _⟩ | exact ⟨_, rfl, hN _⟩
            simp only [Act.put]
            exact trivial
          · intro ff W vals _ hJ8
            obtain ⟨v, hs⟩ := hJ8
            dsimp only at hs
            have HF : Hid (SecW W0 B g q vt { S with s := (S.three.k4 S.t).past 1, f := fixP S.f (j + 1), b := b2 } W nm kd al sz v1 v bs (fixL S.f (j + 1))) := by
              show SecW _ _ _ _ _ _ _ _ _ _ _ _ _ _ _
              rw [HFX.out, HFP.out]
              exact hs
            simp only [putAll, List.map_cons, List.map_nil, JobX.val, Act.put, pA, pB, pC]
            clear hs HJ HFX HFP HWJ hx
            have hm255 := HSN.m255
            go_wp2_with fail
            go_roundw
            case rel => exact ⟨j + 1, v, by go_num, by omega, HF⟩
            case measure => simp [intOf]; omega
        · have hjN : j = N := by omega
          have hi : ¬ (j : Int) < (N : Int) := by omega
          obtain ⟨a1, c1, hv1⟩ := own_slice hs.out.own1
          obtain ⟨a2, c2, hv2⟩ := own_slice hs.out.own2
          subst hv1 hv2
          have p := hs.out.sec.cell
          have p0 : wr.cell? ⟨q, 0, none⟩ = some (.string nm) := p 0
          have p1 : wr.cell? ⟨q, 1, none⟩ = some (.int .i64 kd) := p 1
          have p2 : wr.cell? ⟨q, 2, none⟩ = some (.int .i64 al) := p 2
          have p3 : wr.cell? ⟨q, 3, none⟩ = some (.slice a1 bs.length c1) := p 3
          have p4 : wr.cell? ⟨q, 4, none⟩ = some (.int .i64 sz) := p 4
          have p5 : wr.cell? ⟨q, 5, none⟩ = some (.slice a2 (fixL S.f j).length c2) := p 5
          obtain ⟨nb, hnb⟩ : ∃ nb, bs.length = nb := ⟨_, rfl⟩
          obtain ⟨nf, hnf⟩ : ∃ nf, (fixL S.f j).length = nf := ⟨_, rfl⟩
          rw [hnb] at p3
          rw [hnf] at p5
          have hr := hs.out.res
          have c0 := hr.cell
          have f0 := hr.free
          obtain ⟨r, hrr⟩ : ∃ r, W0.heap.size = r := ⟨_, rfl⟩
          have hrq : r ≠ q := by have := hs.out.lo; omega
          have HF : Hid (∃ y, ScRd W0 B g vt S (.returned (.agg #[.string nm, .int .i64 kd, .int .i64 al, .slice a1 nb c1, .int .i64 sz, .slice a2 nf c2])) ((((((wr.setCell ⟨r, 0, none⟩ (.string nm)).setCell ⟨r, 1, none⟩ (.int .i64 kd)).setCell ⟨r, 2, none⟩ (.int .i64 al)).setCell ⟨r, 3, none⟩ (.slice a1 nb c1)).setCell ⟨r, 4, none⟩ (.int .i64 sz)).setCell ⟨r, 5, none⟩ (.slice a2 nf c2)) y) := by
            obtain ⟨h1, h2, h3⟩ := HBS.out
            have hg : wr.grownBy ((((((wr.setCell ⟨r, 0, none⟩ (.string nm)).setCell ⟨r, 1, none⟩ (.int .i64 kd)).setCell ⟨r, 2, none⟩ (.int .i64 al)).setCell ⟨r, 3, none⟩ (.slice a1 nb c1)).setCell ⟨r, 4, none⟩ (.int .i64 sz)).setCell ⟨r, 5, none⟩ (.slice a2 nf c2)) (some r) := by
              have gp : ∀ (w : World) i v, w.grownBy (w.setCell ⟨r, i, none⟩ v) (some r) := fun w i v => only_put' i v
              exact grown_trans (grown_trans (grown_trans (grown_trans (grown_trans (gp _ _ _) (gp _ _ _)) (gp _ _ _)) (gp _ _ _)) (gp _ _ _)) (gp _ _ _)
            have hyy : (⟨nm, kd, al, bs, sz, fixL S.f j⟩ : Sx) = secAt S.t S.three := by
              unfold secAt
              rw [h1, h2, HSN.kd, HSN.al, HSN.many, hjN]
              have : S.three.s.name S.t = nm := HSN.nm
              rw [this]
              by_cases hk : kd = 3
              · rw [if_pos hk, if_pos hk, HSN.sz]; dsimp only [C5.three]
              · rw [if_neg hk, if_neg hk]; dsimp only [C5.three]
            refine ⟨⟨⟨nm, kd, al, bs, sz, fixL S.f j⟩, a1, c1, a2, c2⟩, hyy, by rw [← hnb, ← hnf], ?_, ?_, ?_, ?_⟩
            · exact hs.out.own1.kept hg (by rw [← hrr]; exact row_apart hs.out.own1 hs.out.res (by decide))
            · exact hs.out.own2.kept hg (by rw [← hrr]; exact row_apart hs.out.own2 hs.out.res (by decide))
            · have hc := hs.out.curs.kept hg (by rw [← hrr]; exact fun e => curs_ne hs.out.curs hs.out.res (by decide) e.symm) (fun i e => by injection e with e; have := hs.out.low; omega)
              have e2 : fixP S.f j = (secPast S.t S.three).f := by rw [hjN, ← HSN.many]; dsimp only [secPast, C5.three]
              have e1 : (S.three.k4 S.t).past 1 = (secPast S.t S.three).s := by dsimp only [secPast]
              rw [e1, e2, h3] at hc
              exact hc
            · exact grown_later hs.out.grown hg (fun i e => by injection e with e; omega)
          have HR : Hid (Has ((((((wr.setCell ⟨r, 0, none⟩ (.string nm)).setCell ⟨r, 1, none⟩ (.int .i64 kd)).setCell ⟨r, 2, none⟩ (.int .i64 al)).setCell ⟨r, 3, none⟩ (.slice a1 nb c1)).setCell ⟨r, 4, none⟩ (.int .i64 sz)).setCell ⟨r, 5, none⟩ (.slice a2 nf c2)) r 48 #[.string nm, .int .i64 kd, .int .i64 al, .slice a1 nb c1, .int .i64 sz, .slice a2 nf c2]) := by
            show Has _ _ _ _
            rw [hrr] at hr
            have := ((((((hr.put 0 (.string nm)).put 1 (.int .i64 kd)).put 2 (.int .i64 al)).put 3 (.slice a1 nb c1)).put 4 (.int .i64 sz)).put 5 (.slice a2 nf c2))
            simpa using this
          rw [hrr] at c0 f0
          clear hs hr HBS HLB HWF hnb hnf p HSN hjN hlt hj HLOW
          go_wp2_with fail
          try rw [hrr]
          refine bodyPost_ret (results_cell_row rfl _ _ r 48 #[.string nm, .int .i64 kd, .int .i64 al, .slice a1 nb c1, .int .i64 sz, .slice a2 nf c2] (0, 0) _ rfl HR.out Tryz.underlying48 rfl (by kernel_rfl)) rfl ?_
          exact HF.out

/-
  The walk of FnObjectsValid.
-/
import Derived.Test.YtiocchmlmcoieaaObsA
import Derived.Test.YtiocchmlmcoieaaRegG
import Derived.Test.YtiocchmlmcoieaaLayR
namespace Go.Proofs.Ytiocchmlmcoieaa
open Go.RowKit

theorem flatO_snoc' (L : List Oj) (y : Oj) : flatO (L ++ [y]) = flatO L ++ [.slice y.a1 y.l.length y.c1, .slice y.a2 y.ms.length y.c2] := flatO_snoc L y
/-- Objects that lie in a row of the call's own. -/
theorem objs_row {W : World} {base : Nat} {a : Option Addr} {n c : Nat} {L : List Oj} (h : W.ownsRow base 29 2 (.slice a n c) n (flatO L)) (hn : L.length = n) (h1 : ∀ y ∈ L, Sects W W.heap.size y.a1 y.l ∧ Syms W W.heap.size y.a2 y.ms) : Objs W W.heap.size a L := by
  refine ⟨fun hp => ?_, fun y hy => (h1 y hy).1, fun y hy => (h1 y hy).2⟩
  rcases h.2 with ⟨_, h0⟩ | ⟨g, cap, cur, e, _, hh, _⟩
  · omega
  · have e1 := (Value.slice.inj e).1
    subst e1
    have e3 := (Value.slice.inj e).2.2
    subst e3
    refine ⟨g, 0, rfl, Has.lt hh, fun i y hi => ?_⟩
    have hil := (List.getElem?_eq_some_iff.1 hi).1
    obtain ⟨f0, f1⟩ := flatO_at L i y hi
    exact ⟨by rw [Nat.zero_add, World.ownsRow.cellAt h (i * 2) (by omega)]; exact f0, by rw [Nat.zero_add, World.ownsRow.cellAt h (i * 2 + 1) (by omega)]; exact f1⟩
/-- append(row, objects...), onto an empty row: where the new row lies. -/
theorem wp_append_objsF {o : Oper} {a : Act} {w : World} {K : Act → World → Prop} {Q : Exit → Act → World → Prop} (s x : Operand) (ho : o.op = .call { callee := .builtin .append, args := #[s, x], argTypes := #[23, 23] })
    (base g cap N : Nat) (L : List Oj) (hs : a.eval s = .slice (some ⟨g, 0, none⟩) N cap) (hown : w.ownsRow base 29 2 (.slice (some ⟨g, 0, none⟩) N cap) N (flatO L)) (ad : Option Addr) (m c B : Nat) (l : List Oj) (hm : m = l.length) (hx : a.eval x = .slice ad m c) (hi : Objs w B ad l) (h63 : N + m ≤ 1000000000) (hbase : base ≤ w.heap.size)
    (h : ∀ v' w', w'.ownsRow base 29 2 v' (N + m) (flatO (L ++ l)) → w.grownBy w' (some g) → (v'.ownBlock = some g ∨ w'.ownsRow w.heap.size 29 2 v' (N + m) (flatO (L ++ l))) → K (a.put o.dst v') w') : o.wp Try.prog a w K Q := by
  obtain ⟨i0, hi0, hz0, hz1, hz2⟩ := info_parts Try.info_object
  rcases Nat.eq_zero_or_pos l.length with h0 | hpos
  · obtain rfl : l = [] := List.eq_nil_of_length_eq_zero h0
    obtain rfl : m = 0 := by rw [hm]; rfl
    rcases ad with _ | ad
    · unfold Oper.wp execOp
      simp only [ho, resolve, invoke, builtin, Sem.run_bind, Sem.run_pure, Result.andThen_ok, List.map_toArray, List.map_cons, List.map_nil, hs, hx, run_append_none 23 o.type i0 Try.underlying23 hi0 _ N _ hown c]
      refine h _ w ?_ ⟨rfl, rfl, rfl, Nat.le_refl _, fun _ _ _ => rfl⟩ (.inl rfl)
      rw [Nat.add_zero, List.append_nil]; exact hown
    · have hnc : N + 0 ≤ cap := by
        rcases hown.2 with ⟨e, _⟩ | ⟨g', cap', cur, e, _, _, h1, _⟩
        · cases e
        · have := (Value.slice.inj e).2.2; omega
      refine wp_append_own_spare w s x 23 ho base 29 i0 2 Try.underlying23 hi0 hz1 g N cap (flatO L) hs hown ad 0 c [] hx rfl (fun j u hu => by simp at hu) (fun u hu => by simp at hu) hnc fun w' h2 h3 => h _ w' ?_ h3 (.inl rfl)
      simpa using h2
  · obtain ⟨b, off, e, _, hc⟩ := hi.flat hpos
    rw [e] at hx
    refine wp_append_fresh s x 23 29 ho _ 2 48 Try.info_object Try.underlying23 rfl (by decide) (by decide) base _ N (flatO L) hs hown b off m c (flatO l) hx (by rw [flatO_length, hm]) (by omega) (fun j u hu => hc j u hu) (flatO_one l) h63 hbase fun v' w' h1 h2 h3 => ?_
    rw [← flatO_append] at h1 h3
    exact h v' w' h1 h2 h3
/-- What stands while the region is done: k of the chain, from k0 on. -/
structure JZ (w5 : World) (n : Nat) (L : List Oj) (gS k0 : Nat) (k : Nat) (f : Bool) (W : World) (vals : Nat → Value) : Prop where
  bel : Below w5.heap.size w5 W
  first : k0 = 1 → 1 ≤ k → vals 0 = .bool true
  free : f = true → ∃ gF, vals (k0 + 4) = .slice (some ⟨gF, 0, none⟩) 1 1 ∧ w5.heap.size ≤ gF ∧ Has W gF 29 #[.slice none 0 0, .slice (some ⟨gS, 0, none⟩) 1 1] ∧ (k = k0 + 1 → (vals k0).ownBlock ≠ some gF) ∧ (k = k0 + 2 → (vals (k0 + 1)).ownBlock ≠ some gF)
  empty : k = k0 + 1 → ∃ gE, vals k0 = .slice (some ⟨gE, 0, none⟩) 0 0 ∧ W.ownsRow w5.heap.size 29 2 (.slice (some ⟨gE, 0, none⟩) 0 0) 0 []
  many : k = k0 + 2 → W.ownsRow w5.heap.size 29 2 (vals (k0 + 1)) n (flatO L)
  more : k = k0 + 3 → W.ownsRow w5.heap.size 29 2 (vals (k0 + 2)) (n + 1) (flatO L ++ [.slice none 0 0, .slice (some ⟨gS, 0, none⟩) 1 1])
  last : k = k0 + 4 → vals (k0 + 3) = .bool false
  late : k0 + 3 ≤ k → f = true
section
variable {w5 : World} {n : Nat} {L : List Oj} {gS k0 : Nat} {f : Bool} {W W' : World} {vals : Nat → Value}
/-- The empty row. -/
theorem JZ.c0 (h : JZ w5 n L gS k0 k0 f W vals) (hb : w5.heap.size ≤ W.heap.size) : JZ w5 n L gS k0 (k0 + 1) f (W.alloc (.cells #[] 29)) (upd vals k0 (.slice (some ⟨W.heap.size, 0, none⟩) 0 0)) := by
  refine ⟨h.bel.alloc hb _, fun e1 e2 => ?_, fun hf => ?_, fun _ => ⟨W.heap.size, by unfold upd; rw [if_pos rfl], empty_row W _ _ _ hb⟩, fun e => by omega, fun e => by omega, fun e => by omega, fun e => by omega⟩
  · unfold upd
    rw [if_neg (by omega)]
    exact h.first e1 (by omega)
  · obtain ⟨gF, e1, e2, e3, _, _⟩ := h.free hf
    refine ⟨gF, by unfold upd; rw [if_neg (by omega)]; exact e1, e2, e3.alloc _, fun _ => ?_, fun e => by omega⟩
    unfold upd
    rw [if_pos rfl]
    intro e
    have e' : W.heap.size = gF := Option.some.inj e
    have := e3.lt
    omega
/-- The one that is free. -/
theorem JZ.fr {k : Nat} (h : JZ w5 n L gS k0 k false W vals) (hb : w5.heap.size ≤ W.heap.size) : JZ w5 n L gS k0 k true (W.alloc (.cells #[.slice none 0 0, .slice (some ⟨gS, 0, none⟩) 1 1] 29)) (upd vals (k0 + 4) (.slice (some ⟨W.heap.size, 0, none⟩) 1 1)) := by
  refine ⟨h.bel.alloc hb _, fun e1 e2 => ?_, fun _ => ⟨W.heap.size, by unfold upd; rw [if_pos rfl], hb, Has.new _ _ _, fun e1 e2 => ?_, fun e1 e2 => ?_⟩, fun e => ?_, fun e => ?_, fun e => absurd (h.late (by omega)) (by decide), fun e => absurd (h.late (by omega)) (by decide), fun _ => rfl⟩
  · unfold upd
    rw [if_neg (by omega)]
    exact h.first e1 e2
  · unfold upd at e2
    rw [if_neg (by omega)] at e2
    obtain ⟨gE, q1, q2⟩ := h.empty e1
    rw [q1] at e2
    have := (q2.lt _ e2).2
    omega
  · unfold upd at e2
    rw [if_neg (by omega)] at e2
    have := ((h.many e1).lt _ e2).2
    omega
  · obtain ⟨gE, q1, q2⟩ := h.empty e
    exact ⟨gE, by unfold upd; rw [if_neg (by omega)]; exact q1, q2.alloc _⟩
  · unfold upd
    rw [if_neg (by omega)]
    exact (h.many e).alloc _
/-- The objects behind the empty row. -/
theorem JZ.c1 {gE : Nat} (h : JZ w5 n L gS k0 (k0 + 1) f W vals) (hE : vals k0 = .slice (some ⟨gE, 0, none⟩) 0 0) (hrow : W.ownsRow w5.heap.size 29 2 (.slice (some ⟨gE, 0, none⟩) 0 0) 0 []) {v' : Value} (h1 : W'.ownsRow w5.heap.size 29 2 v' n (flatO L)) (hg : W.grownBy W' (some gE)) (hf2 : v'.ownBlock = some gE ∨ W'.ownsRow W.heap.size 29 2 v' n (flatO L)) : JZ w5 n L gS k0 (k0 + 2) f W' (upd vals (k0 + 1) v') := by
  have hEl := hrow.lt gE rfl
  refine ⟨h.bel.grown hg h.bel.size (by intro q hq; injection hq with hq; omega), fun e1 e2 => ?_, fun hf => ?_, fun e => by omega, fun _ => by unfold upd; rw [if_pos rfl]; exact h1, fun e => by omega, fun e => by omega, fun e => by omega⟩
  · unfold upd
    rw [if_neg (by omega)]
    exact h.first e1 (by omega)
  · obtain ⟨gF, e1, e2, e3, e4, _⟩ := h.free hf
    have hne : gE ≠ gF := fun e => by
      have := e4 rfl
      rw [hE] at this
      exact this (by rw [← e]; rfl)
    refine ⟨gF, by unfold upd; rw [if_neg (by omega)]; exact e1, e2, e3.grown hg (by intro e; injection e with e; exact hne e.symm), fun e => by omega, fun _ => ?_⟩
    unfold upd
    rw [if_pos rfl]
    intro e
    rcases hf2 with hf2 | hf2
    · rw [hf2] at e
      injection e with e
      exact hne e
    · have := (hf2.lt _ e).1
      have := e3.lt
      omega
/-- The bad object behind them. -/
theorem JZ.c2 (h : JZ w5 n L gS k0 (k0 + 2) f W vals) (hf1 : f = true) {v' : Value} (h1 : W'.ownsRow w5.heap.size 29 2 v' (n + 1) (flatO L ++ [.slice none 0 0, .slice (some ⟨gS, 0, none⟩) 1 1])) (hg : W.grownBy W' (vals (k0 + 1)).ownBlock) : JZ w5 n L gS k0 (k0 + 3) f W' (upd vals (k0 + 2) v') := by
  refine ⟨h.bel.grown hg h.bel.size (fun q hq => ((h.many rfl).lt q hq).1), fun e1 e2 => ?_, fun hf => ?_, fun e => by omega, fun e => by omega, fun _ => by unfold upd; rw [if_pos rfl]; exact h1, fun e => by omega, fun _ => hf1⟩
  · unfold upd
    rw [if_neg (by omega)]
    exact h.first e1 (by omega)
  · obtain ⟨gF, e1, e2, e3, _, e5⟩ := h.free hf
    exact ⟨gF, by unfold upd; rw [if_neg (by omega)]; exact e1, e2, e3.grown hg (fun e => e5 rfl e.symm), fun e => by omega, fun e => by omega⟩
/-- They are not valid. -/
theorem JZ.c3 (h : JZ w5 n L gS k0 (k0 + 3) f W vals) (hb : Below W.heap.size W W') : JZ w5 n L gS k0 (k0 + 4) f W' (upd vals (k0 + 3) (.bool false)) := by
  refine ⟨h.bel.trans (hb.mono h.bel.size), fun e1 e2 => ?_, fun hf => ?_, fun e => by omega, fun e => by omega, fun e => by omega, fun _ => by unfold upd; rw [if_pos rfl], fun _ => h.late (by omega)⟩
  · unfold upd
    rw [if_neg (by omega)]
    exact h.first e1 (by omega)
  · obtain ⟨gF, e1, e2, e3, _, _⟩ := h.free hf
    exact ⟨gF, by unfold upd; rw [if_neg (by omega)]; exact e1, e2, e3.below hb e3.lt, fun e => by omega, fun e => by omega⟩
/-- A part of them is valid. -/
theorem JZ.c9 (h : JZ w5 n L gS 1 0 f W vals) (hb : Below W.heap.size W W') : JZ w5 n L gS 1 1 f W' (upd vals 0 (.bool true)) := by
  refine ⟨h.bel.trans (hb.mono h.bel.size), fun _ _ => by unfold upd; rw [if_pos rfl], fun hf => ?_, fun e => by omega, fun e => by omega, fun e => by omega, fun e => by omega, fun e => by omega⟩
  obtain ⟨gF, e1, e2, e3, _, _⟩ := h.free hf
  exact ⟨gF, by unfold upd; rw [if_neg (by omega)]; exact e1, e2, e3.below hb e3.lt, fun e => by omega, fun e => by omega⟩
theorem JZ.start {k0 : Nat} : JZ w5 n L gS k0 0 false w5.drew (fun _ => undef) :=
  ⟨(Below.refl _ _).drew, fun _ e => by omega, (fun e => by cases e), (fun e => by omega), (fun e => by omega), (fun e => by omega), (fun e => by omega), (fun e => by omega)⟩
end
/-- Objects that were drawn, with the room told. -/
theorem drawObjectsValid_cap (w : World) (a : Option Addr) (cap : Nat) (l : List Int) (h : Ints w .u8 w.heap.size a l) (hcap : l.length ≤ cap) (hlen : cap ≤ 9223372036854775807) :
    Calls Try.prog 8 #[.slice a l.length cap] w (GotC w) := by
  go_enter Try.func8, Try.ntmps8
  go_wp2_with fail
  refine (l20Open_any w a cap l h hcap hlen).mono ?_
  rintro e w1 ⟨rfl, hr1, hb1⟩
  have HX := hidden (l20Objects_any w1 w.heap.size w.heap.size 0 3 hr1 (by omega) (by omega) (by omega))
  have HB := hidden hb1
  clear hr1 hb1 h
  go_wp2_with fail
  refine HX.out.mono ?_
  clear HX
  rintro e w2 hD
  have HG := hidden (gotC_mk HB.out (Nat.le_refl _) hD)
  obtain ⟨a2, c2, L, rfl, -, -⟩ := hD
  clear HB
  go_wp2_with fail
  go_ret
  exact HG.out
set_option maxRecDepth 100000 in
set_option maxHeartbeats 16000000 in
theorem law_ObjectsValid (w : World) (a0 : Option Addr) (len cap : Nat) (h : Came w a0 len cap) :
    Calls Try.prog 3 #[.slice a0 len cap] w fun e w' => e = .returned (.bool true) ∧ Below w.heap.size w w' := by
  obtain ⟨l0, h, rfl, hcap, hmax⟩ := h
  by_cases hbig : 1048576 < l0.length
  · have hd : (1048576 : Int) < (l0.length : Int) := by omega
    go_enter Try.func3, Try.ntmps3
    go_wp2
    go_ret
    exact ⟨rfl, Below.refl _ _⟩
  have hd : ¬ (1048576 : Int) < (l0.length : Int) := by omega
  have HD := hidden (drawObjectsValid_cap w a0 cap l0 h hcap hmax)
  clear h
  go_enter Try.func3, Try.ntmps3
  go_wp2_with fail
  refine HD.out.mono ?_
  clear HD
  rintro e w1 ⟨a, c, L, rfl, ⟨hc1, hc2⟩, hL5, hfew, hO, hb1⟩
  obtain ⟨n, hn⟩ : ∃ q, L.length = q := ⟨_, rfl⟩
  obtain ⟨ok, hok⟩ : ∃ q, validA (L.map Oj.o) = q := ⟨_, rfl⟩
  have hft : ∀ y ∈ L, y.fits := fun y hy => (hfew y hy).fits
  have HIM : Hid (Calls Try.prog 9 #[.slice a n c] w1 fun e w' => e = .returned (.bool ok) ∧ Below w1.heap.size w1 w') := by
    have := objectsValid_any w1 w1.heap.size a c n L hn.symm hO (Nat.le_refl _) (by omega) hft
    rwa [hok] at this
  have HSP : Hid (∀ W, Below w1.heap.size w1 W → Calls Try.prog 10 #[.slice a n c] W fun e w' => e = .returned (.bool ok) ∧ Below W.heap.size W w') := fun W hB => by
    have := objectsValid'_any W w1.heap.size a c n L hn.symm (hO.below hB) hB.size (by omega) (fun y hy => (hft y hy).lens)
    rwa [hok] at this
  have HO := hidden hO
  have HB1 := hidden hb1
  have HN := hidden hn
  have HOK := hidden hok
  have HFT := hidden hft
  have hoo : (ok != ok) = false := by simp
  have hn5 : n ≤ 5 := by omega
  rw [hn]
  rw [hn] at hc1
  have HC1 := hidden hc1
  have HC2 := hidden hc2
  clear hft hfew hO hb1 hn hok hL5 hc1 hc2 hd hbig
  go_wp2_with fail
  refine HIM.out.mono ?_
  clear HIM
  rintro e w2 ⟨rfl, hb2⟩
  have HS2 := hidden (HSP.out w2 hb2)
  have HB2 := hidden hb2
  clear hb2 HSP
  go_wp2_with fail
  refine HS2.out.mono ?_
  clear HS2
  rintro e w3 ⟨rfl, hb3⟩
  have HB3 := hidden (HB2.out.trans (hb3.mono HB2.out.size))
  clear hb3 HB2
  have hmk : ∀ W : World, Sem.run Try.prog (Instr.makeSlice 26 (.int .i64 1) (.int .i64 1)) W = .ok (.slice (some ⟨W.heap.size, 0, none⟩) 1 1) (W.alloc (.cells #[.string ⟨#[]⟩, .int .i64 0, .int .i64 0, .int .i64 0] 82)) := fun W => by kernel_rfl
  obtain ⟨w5, hw5⟩ : ∃ q, (w3.alloc (.cells #[.string ⟨#[]⟩, .int .i64 0, .int .i64 0, .int .i64 0] 82)).alloc (.cells #[.slice none 0 0, .slice (some ⟨w3.heap.size, 0, none⟩) 1 1] 29) = q := ⟨_, rfl⟩
  have hs5 : w5.heap.size = w3.heap.size + 2 := by rw [← hw5]; simp
  have hS5 : Has w5 w3.heap.size 82 #[.string ⟨#[]⟩, .int .i64 0, .int .i64 0, .int .i64 0] := by rw [← hw5]; exact (Has.new _ _ _).alloc _
  have hO5 : Has w5 (w3.heap.size + 1) 29 #[.slice none 0 0, .slice (some ⟨w3.heap.size, 0, none⟩) 1 1] := by
    rw [← hw5]
    have := Has.new (w3.alloc (.cells #[.string ⟨#[]⟩, .int .i64 0, .int .i64 0, .int .i64 0] 82)) 29 #[.slice none 0 0, .slice (some ⟨w3.heap.size, 0, none⟩) 1 1]
    simpa using this
  have hb5 : Below w1.heap.size w1 w5 := by rw [← hw5]; exact (HB3.out.alloc HB3.out.size _).alloc (by have := HB3.out.size; simp; omega) _
  obtain ⟨gS, hgS⟩ : ∃ q, w3.heap.size = q := ⟨_, rfl⟩
  rw [hgS] at hS5 hO5 hs5 hw5
  have HO5 : Hid (∀ W, Below w5.heap.size w5 W → W.cell? ⟨gS + 1, 0, none⟩ = some (.slice none 0 0) ∧ W.cell? ⟨gS + 1, 1, none⟩ = some (.slice (some ⟨gS, 0, none⟩) 1 1)) := fun W hW => by
    have h := hO5.below hW hO5.lt
    exact ⟨h.cell 0, h.cell 1⟩
  -- the objects with the bad one behind them
  have HBAD : Hid (∀ (W : World) (v : Value), Below w5.heap.size w5 W → W.ownsRow w5.heap.size 29 2 v (n + 1) (flatO L ++ [.slice none 0 0, .slice (some ⟨gS, 0, none⟩) 1 1]) → ∃ ba bc, v = .slice ba (n + 1) bc ∧ Calls Try.prog 9 #[.slice ba (n + 1) bc] W fun e w' => e = .returned (.bool false) ∧ Below W.heap.size W w') := fun W v hW hr => by
    obtain ⟨ba, bc, rfl⟩ := own_shape hr
    refine ⟨ba, bc, rfl, ?_⟩
    have hy : flatO (L ++ [⟨[], [⟨⟨#[]⟩, 0, 0, 0⟩], none, 0, some ⟨gS, 0, none⟩, 1⟩]) = flatO L ++ [.slice none 0 0, .slice (some ⟨gS, 0, none⟩) 1 1] := flatO_snoc' L _
    have hlen : (L ++ [(⟨[], [⟨⟨#[]⟩, 0, 0, 0⟩], none, 0, some ⟨gS, 0, none⟩, 1⟩ : Oj)]).length = n + 1 := by rw [List.length_append, HN.out]; rfl
    have hSW := hS5.below hW hS5.lt
    have hL := (HO.out.below (hb5.trans (hW.mono hb5.size))).more (Nat.le_trans hb5.size hW.size)
    have hobs : Objs W W.heap.size ba (L ++ [⟨[], [⟨⟨#[]⟩, 0, 0, 0⟩], none, 0, some ⟨gS, 0, none⟩, 1⟩]) := objs_row (base := w5.heap.size) (c := bc) (n := n + 1) (by rw [hy]; exact hr) hlen (fun y hy => by
      rcases List.mem_append.1 hy with h | h
      · exact ⟨hL.secs y h, hL.syms y h⟩
      · rw [List.mem_singleton.1 h]
        refine ⟨Sects.nil, fun _ => ⟨gS, 0, rfl, hSW.lt, fun i m hi => ?_⟩⟩
        rcases i with _ | i
        · simp at hi
          subst hi
          exact ⟨hSW.cell 0, hSW.cell 1, hSW.cell 2, hSW.cell 3⟩
        · simp at hi)
    have hfit : ∀ y ∈ (L ++ [(⟨[], [⟨⟨#[]⟩, 0, 0, 0⟩], none, 0, some ⟨gS, 0, none⟩, 1⟩ : Oj)]), y.fits := fun y hy => by
      rcases List.mem_append.1 hy with h | h
      · exact HFT.out y h
      · rw [List.mem_singleton.1 h]
        refine ⟨by simp, by simp, by simp, fun x hx => ?_⟩
        rw [List.mem_singleton.1 hx]
        exact ⟨by show (0 : Nat) ≤ maxLen; omega, by show I64 0; unfold I64; omega, by show I64 0; unfold I64; omega, by show I64 0; unfold I64; omega⟩
    have := objectsValid_any W W.heap.size ba bc (n + 1) _ hlen.symm hobs (Nat.le_refl _) (by omega) hfit
    rwa [valid_bad L (y := ⟨[], [⟨⟨#[]⟩, 0, 0, 0⟩], none, 0, some ⟨gS, 0, none⟩, 1⟩) bad_object] at this
  have HOL : Hid (∀ W, Below w5.heap.size w5 W → Objs W w5.heap.size a L) := fun W hW => ((HO.out.below (hb5.trans (hW.mono hb5.size))).more hb5.size)
  have HB5 : Hid (Below w.heap.size w w5) := HB1.out.trans (hb5.mono HB1.out.size)
  have HW5 := hidden hw5
  have HGS := hidden hgS
  clear hw5 hs5 hS5 hO5 hb5
  rcases ok with _ | _
  · clear HOK HC1 HC2
    go_upto_region 8 with fail
    rw [HW5.out]
    clear HW5 HGS hmk hoo hgS
    refine wp_region_guard (m := 4) (js := [.quiet (.bool false) 0 4, .quiet (.bool true) 0 4, .quiet (.bool true) 0 4, .quiet undef 0 4, .quiet undef 0 4, .quiet undef 0 4, .quiet undef 0 4, .quiet undef 0 4, .quiet undef 0 4, .quiet (.bool true) 0 4, .quiet (.bool true) 0 4, .chain 0 false, .quiet (.slice a n c) 0 4, .chain 1 false, .quiet (.agg #[.slice none 0 0, .slice (some ⟨gS, 0, none⟩) 1 1]) 0 4, .free 4, .chain 2 true, .chain 3 false, .quiet (.bool true) 4 4, .quiet (.bool true) 0 4, .quiet (.bool true) 0 4, .quiet (.bool true) 0 4, .quiet (.bool true) 0 4, .quiet (.bool true) 0 4]) (by kernel_rfl) (JZ w5 n L gS 0) (by kernel_rfl) (by kernel_rfl) ⟨_, JZ.start⟩ (fun vals => ?_) ?_
    · show SeqG _ _ _ _ _ _ _ _
      refine ⟨?_, ?_⟩
      · rw [if_pos (by rfl)]
        intro kk hlo hhi ff W hW
        unfold Oper.wp
        simp [go_sem]
        try exact ⟨_, rfl, rfl⟩
      simp only [Act.put, JobX.val, List.setIfInBounds_toArray, List.set_cons_succ, List.set_cons_zero]
      refine ⟨?_, ?_⟩
      · rw [if_pos (by rfl)]
        intro kk hlo hhi ff W hW
        unfold Oper.wp
        simp [go_sem]
        try exact ⟨_, rfl, rfl⟩
      simp only [Act.put, JobX.val, List.setIfInBounds_toArray, List.set_cons_succ, List.set_cons_zero]
      refine ⟨?_, ?_⟩
      · rw [if_pos (by rfl)]
        intro kk hlo hhi ff W hW
        unfold Oper.wp
        simp [go_sem]
        try exact ⟨_, rfl, rfl⟩
      simp only [Act.put, JobX.val, List.setIfInBounds_toArray, List.set_cons_succ, List.set_cons_zero]
      refine ⟨?_, ?_⟩
      · rw [if_neg (by intro h; exact Bool.noConfusion (show false = true from h))]
        exact ⟨_, rfl⟩
      simp only [Act.put, JobX.val, List.setIfInBounds_toArray, List.set_cons_succ, List.set_cons_zero]
      refine ⟨?_, ?_⟩
      · rw [if_neg (by intro h; exact Bool.noConfusion (show false = true from h))]
        exact ⟨_, rfl⟩
      simp only [Act.put, JobX.val, List.setIfInBounds_toArray, List.set_cons_succ, List.set_cons_zero]
      refine ⟨?_, ?_⟩
      · rw [if_neg (by intro h; exact Bool.noConfusion (show false = true from h))]
        exact ⟨_, rfl⟩
      simp only [Act.put, JobX.val, List.setIfInBounds_toArray, List.set_cons_succ, List.set_cons_zero]
      refine ⟨?_, ?_⟩
      · rw [if_neg (by intro h; exact Bool.noConfusion (show false = true from h))]
        exact ⟨_, rfl⟩
      simp only [Act.put, JobX.val, List.setIfInBounds_toArray, List.set_cons_succ, List.set_cons_zero]
      refine ⟨?_, ?_⟩
      · rw [if_neg (by intro h; exact Bool.noConfusion (show false = true from h))]
        exact ⟨_, rfl⟩
      simp only [Act.put, JobX.val, List.setIfInBounds_toArray, List.set_cons_succ, List.set_cons_zero]
      refine ⟨?_, ?_⟩
      · rw [if_neg (by intro h; exact Bool.noConfusion (show false = true from h))]
        exact ⟨_, rfl⟩
      simp only [Act.put, JobX.val, List.setIfInBounds_toArray, List.set_cons_succ, List.set_cons_zero]
      refine ⟨?_, ?_⟩
      · rw [if_pos (by rfl)]
        intro kk hlo hhi ff W hW
        unfold Oper.wp
        simp [go_sem]
        try exact ⟨_, rfl, rfl⟩
      simp only [Act.put, JobX.val, List.setIfInBounds_toArray, List.set_cons_succ, List.set_cons_zero]
      refine ⟨?_, ?_⟩
      · rw [if_pos (by rfl)]
        intro kk hlo hhi ff W hW
        unfold Oper.wp
        simp [go_sem]
        try exact ⟨_, rfl, rfl⟩
      simp only [Act.put, JobX.val, List.setIfInBounds_toArray, List.set_cons_succ, List.set_cons_zero]
      refine ⟨?_, ?_⟩
      · rw [if_pos (by rfl)]
        intro ff W hwt hW
        have hN := hW.c0 hW.bel.size
        unfold Oper.wp
        simp [go_sem]
        first | exact hN | exact ⟨_, rfl, hN⟩
      simp only [Act.put, JobX.val, List.setIfInBounds_toArray, List.set_cons_succ, List.set_cons_zero]
      refine ⟨?_, ?_⟩
      · rw [if_pos (by rfl)]
        intro kk hlo hhi ff W hW
        unfold Oper.wp
        simp [go_sem]
        try exact ⟨_, rfl, rfl⟩
      simp only [Act.put, JobX.val, List.setIfInBounds_toArray, List.set_cons_succ, List.set_cons_zero]
      refine ⟨?_, ?_⟩
      · rw [if_pos (by rfl)]
        intro ff W hwt hW
        obtain ⟨gE, hE, hrow⟩ := hW.empty rfl
        refine wp_append_objsF _ _ rfl w5.heap.size gE 0 0 [] hE hrow a n c w5.heap.size L HN.out.symm rfl (HOL.out W hW.bel) (by omega) hW.bel.size ?_
        intro v' w' h1 h2 h3
        rw [Nat.zero_add, List.nil_append] at h1 h3
        exact ⟨_, rfl, hW.c1 hE hrow h1 h2 h3⟩
      simp only [Act.put, JobX.val, List.setIfInBounds_toArray, List.set_cons_succ, List.set_cons_zero]
      refine ⟨?_, ?_⟩
      · rw [if_pos (by rfl)]
        intro kk hlo hhi ff W hW
        obtain ⟨q0, q1⟩ := HO5.out W hW.bel
        unfold Oper.wp
        simp [go_sem, q0, q1]
        try exact ⟨_, rfl, rfl⟩
      simp only [Act.put, JobX.val, List.setIfInBounds_toArray, List.set_cons_succ, List.set_cons_zero]
      refine ⟨?_, ?_⟩
      · rw [if_pos (by rfl)]
        intro kk W hW
        have hN := hW.fr hW.bel.size
        unfold Oper.wp
        simp [go_sem]
        first | exact hN | exact ⟨_, rfl, hN⟩
      simp only [Act.put, JobX.val, List.setIfInBounds_toArray, List.set_cons_succ, List.set_cons_zero]
      refine ⟨?_, ?_⟩
      · rw [if_pos (by rfl)]
        intro ff W hwt hW
        obtain ⟨gF, e1, e2, e3, e4, e5⟩ := hW.free (hwt rfl)
        have hrow := hW.many rfl
        refine wp_append_row _ _ 23 29 rfl _ 2 48 Try.info_object Try.underlying23 rfl (by decide) (by decide) w5.heap.size (vals 1) n (flatO L) rfl hrow (some ⟨gF, 0, none⟩) 1 1 [.slice none 0 0, .slice (some ⟨gS, 0, none⟩) 1 1] e1 rfl (fun _ => ⟨gF, 0, rfl, fun i u hu => by rw [Nat.zero_add, e3.cell]; simpa using hu⟩) (fun u hu => by simp only [List.mem_cons, List.not_mem_nil, or_false] at hu; rcases hu with rfl | rfl <;> rfl) (by omega) hW.bel.size ?_
        intro v' w' h1 h2
        exact ⟨_, rfl, hW.c2 (hwt rfl) h1 h2⟩
      simp only [Act.put, JobX.val, List.setIfInBounds_toArray, List.set_cons_succ, List.set_cons_zero]
      refine ⟨?_, ?_⟩
      · rw [if_pos (by rfl)]
        intro ff W hwt hW
        obtain ⟨ba, bc, hv, hc⟩ := HBAD.out W _ hW.bel (hW.more rfl)
        rw [hv]
        unfold Oper.wp
        simp [go_sem]
        refine hc.mono ?_
        rintro e w' ⟨rfl, hb⟩
        have hN := hW.c3 hb
        first | exact hN | exact ⟨_, rfl, hN⟩
      simp only [Act.put, JobX.val, List.setIfInBounds_toArray, List.set_cons_succ, List.set_cons_zero]
      refine ⟨?_, ?_⟩
      · rw [if_pos (by rfl)]
        intro kk hlo hhi ff W hW
        obtain rfl : kk = 4 := by omega
        have q := hW.last rfl
        unfold Oper.wp
        simp [go_sem, q]
        try exact ⟨_, rfl, rfl⟩
      simp only [Act.put, JobX.val, List.setIfInBounds_toArray, List.set_cons_succ, List.set_cons_zero]
      refine ⟨?_, ?_⟩
      · rw [if_pos (by rfl)]
        intro kk hlo hhi ff W hW
        unfold Oper.wp
        simp [go_sem]
        try exact ⟨_, rfl, rfl⟩
      simp only [Act.put, JobX.val, List.setIfInBounds_toArray, List.set_cons_succ, List.set_cons_zero]
      refine ⟨?_, ?_⟩
      · rw [if_pos (by rfl)]
        intro kk hlo hhi ff W hW
        unfold Oper.wp
        simp [go_sem]
        try exact ⟨_, rfl, rfl⟩
      simp only [Act.put, JobX.val, List.setIfInBounds_toArray, List.set_cons_succ, List.set_cons_zero]
      refine ⟨?_, ?_⟩
      · rw [if_pos (by rfl)]
        intro kk hlo hhi ff W hW
        unfold Oper.wp
        simp [go_sem]
        refine (alive_any W).mono ?_
        rintro e w' ⟨rfl, rfl⟩
        first | exact ⟨_, rfl, rfl⟩ | exact ⟨rfl, rfl⟩
      simp only [Act.put, JobX.val, List.setIfInBounds_toArray, List.set_cons_succ, List.set_cons_zero]
      refine ⟨?_, ?_⟩
      · rw [if_pos (by rfl)]
        intro kk hlo hhi ff W hW
        unfold Oper.wp
        simp [go_sem]
        try exact ⟨_, rfl, rfl⟩
      simp only [Act.put, JobX.val, List.setIfInBounds_toArray, List.set_cons_succ, List.set_cons_zero]
      refine ⟨?_, trivial⟩
      rw [if_pos (by rfl)]
      intro kk hlo hhi ff W hW
      unfold Oper.wp
      simp [go_sem]
      try exact ⟨_, rfl, rfl⟩
    · intro ff W vals hff hJ
      simp only [putAll, List.map_cons, List.map_nil, JobX.val, Act.put, List.setIfInBounds_toArray, List.set_cons_succ, List.set_cons_zero]
      have HF : Hid (Below w.heap.size w W) := HB5.out.trans (hJ.bel.mono HB5.out.size)
      clear hJ HO5 HBAD HOL
      go_wp2_with fail
      go_ret
      exact ⟨rfl, HF.out⟩
  · clear hoo
    obtain ⟨q, hq⟩ : ∃ q, n / 2 = q := ⟨_, rfl⟩
    have hqn : q ≤ n := by omega
    have htd : (n : Int).tdiv 2 = (q : Int) := by rw [Int.tdiv_eq_ediv_of_nonneg (by omega)]; omega
    have hwq : IntKind.i64.wrap (q : Int) = (q : Int) := IntWalk.i64_in _ (by omega)
    obtain ⟨a2, ha2⟩ : ∃ x, (if c = q then a else a.map (·.add (q * 2))) = x := ⟨_, rfl⟩
    have hsl : ∀ W : World, (Instr.slice 23 (.slice a n c) (some (.int .i64 (q : Int))) none none).run Try.prog W = .ok (.slice a2 (n - q) (c - q)) W := fun W => by
      have ht : Try.prog.underlying 23 = some (.slice (Try.prog.elem 23)) := by kernel_rfl
      have hz : (sizeOf (Try.prog.elem 23)).run Try.prog W = .ok 2 W := by kernel_rfl
      have h1 := HC1.out
      have := run_slice_l W 23 a n c ht .i64 q (by omega) (by omega)
      rw [this, hz]
      simp only [Result.andThen, sliced, Int.toNat_natCast]
      rw [← ha2]
    have HHALF : Hid (∀ W, Below w5.heap.size w5 W → Calls Try.prog 9 #[.slice a2 (n - q) (c - q)] W fun e w' => e = .returned (.bool true) ∧ Below W.heap.size W w') := fun W hW => by
      have hobs : Objs W w5.heap.size a2 (L.drop q) := by
        rcases Nat.eq_zero_or_pos n with h0 | hpos
        · have hL : L.drop q = [] := List.eq_nil_of_length_eq_zero (by rw [List.length_drop, HN.out]; omega)
          rw [hL]
          exact ⟨fun h => by simp at h, fun y hy => by simp at hy, fun y hy => by simp at hy⟩
        · obtain ⟨b, off, ha, _⟩ := (HOL.out W hW).row (by rw [HN.out]; exact hpos)
          have h1 := HC1.out
          have e : a2 = some ⟨b, off + q * 2, none⟩ := by
            rw [← ha2, if_neg (by omega), ha]
            show some (Addr.add ⟨b, off, none⟩ (q * 2)) = _
            unfold Addr.add
            by_cases h0 : q * 2 = 0
            · rw [if_pos h0, h0, Nat.add_zero]
            · rw [if_neg h0]
          rw [e]
          refine Objs.drop ?_ q
          rw [← ha]
          exact HOL.out W hW
      have := objectsValid_any W w5.heap.size a2 (c - q) (n - q) (L.drop q) (by rw [List.length_drop, HN.out]) hobs hW.size (by omega) (fun y hy => HFT.out y (List.mem_of_mem_drop hy))
      rwa [valid_drop HOK.out q] at this
    clear HOK HC1 HC2 ha2 hq hqn
    go_upto_region 8 with fail
    rw [HW5.out]
    clear HW5 HGS hmk hgS
    refine wp_region_guard (m := 5) (js := [.quiet (.bool true) 0 5, .quiet (.bool false) 0 5, .quiet (.bool false) 0 5, .quiet (.slice a n c) 0 5, .quiet (.slice a n c) 0 5, .quiet (.int .i64 n) 0 5, .quiet (.int .i64 q) 0 5, .quiet (.slice a2 (n - q) (c - q)) 0 5, .chain 0 false, .quiet (.bool true) 1 5, .quiet (.bool true) 0 5, .chain 1 false, .quiet (.slice a n c) 0 5, .chain 2 false, .quiet (.agg #[.slice none 0 0, .slice (some ⟨gS, 0, none⟩) 1 1]) 0 5, .free 5, .chain 3 true, .chain 4 false, .quiet (.bool true) 5 5, .quiet (.bool true) 0 5, .quiet (.bool true) 0 5, .quiet (.bool true) 0 5, .quiet (.bool true) 0 5, .quiet (.bool true) 0 5]) (by kernel_rfl) (JZ w5 n L gS 1) (by kernel_rfl) (by kernel_rfl) ⟨_, JZ.start⟩ (fun vals => ?_) ?_
    · show SeqG _ _ _ _ _ _ _ _
      refine ⟨?_, ?_⟩
      · rw [if_pos (by rfl)]
        intro kk hlo hhi ff W hW
        unfold Oper.wp
        simp [go_sem]
        try exact ⟨_, rfl, rfl⟩
      simp only [Act.put, JobX.val, List.setIfInBounds_toArray, List.set_cons_succ, List.set_cons_zero]
      refine ⟨?_, ?_⟩
      · rw [if_pos (by rfl)]
        intro kk hlo hhi ff W hW
        unfold Oper.wp
        simp [go_sem]
        try exact ⟨_, rfl, rfl⟩
      simp only [Act.put, JobX.val, List.setIfInBounds_toArray, List.set_cons_succ, List.set_cons_zero]
      refine ⟨?_, ?_⟩
      · rw [if_pos (by rfl)]
        intro kk hlo hhi ff W hW
        unfold Oper.wp
        simp [go_sem]
        try exact ⟨_, rfl, rfl⟩
      simp only [Act.put, JobX.val, List.setIfInBounds_toArray, List.set_cons_succ, List.set_cons_zero]
      refine ⟨?_, ?_⟩
      · rw [if_pos (by rfl)]
        intro kk hlo hhi ff W hW
        unfold Oper.wp
        simp [go_sem]
        try exact ⟨_, rfl, rfl⟩
      simp only [Act.put, JobX.val, List.setIfInBounds_toArray, List.set_cons_succ, List.set_cons_zero]
      refine ⟨?_, ?_⟩
      · rw [if_pos (by rfl)]
        intro kk hlo hhi ff W hW
        unfold Oper.wp
        simp [go_sem]
        try exact ⟨_, rfl, rfl⟩
      simp only [Act.put, JobX.val, List.setIfInBounds_toArray, List.set_cons_succ, List.set_cons_zero]
      refine ⟨?_, ?_⟩
      · rw [if_pos (by rfl)]
        intro kk hlo hhi ff W hW
        unfold Oper.wp
        simp [go_sem]
        try exact ⟨_, rfl, rfl⟩
      simp only [Act.put, JobX.val, List.setIfInBounds_toArray, List.set_cons_succ, List.set_cons_zero]
      refine ⟨?_, ?_⟩
      · rw [if_pos (by rfl)]
        intro kk hlo hhi ff W hW
        unfold Oper.wp
        simp [go_sem, htd, hwq]
        try exact ⟨_, rfl, rfl⟩
      simp only [Act.put, JobX.val, List.setIfInBounds_toArray, List.set_cons_succ, List.set_cons_zero]
      refine ⟨?_, ?_⟩
      · rw [if_pos (by rfl)]
        intro kk hlo hhi ff W hW
        unfold Oper.wp
        simp [go_sem, hsl]
        try exact ⟨_, rfl, rfl⟩
      simp only [Act.put, JobX.val, List.setIfInBounds_toArray, List.set_cons_succ, List.set_cons_zero]
      refine ⟨?_, ?_⟩
      · rw [if_pos (by rfl)]
        intro ff W hwt hW
        have hc := HHALF.out W hW.bel
        unfold Oper.wp
        simp [go_sem]
        refine hc.mono ?_
        rintro e w' ⟨rfl, hb⟩
        have hN := hW.c9 hb
        first | exact hN | exact ⟨_, rfl, hN⟩
      simp only [Act.put, JobX.val, List.setIfInBounds_toArray, List.set_cons_succ, List.set_cons_zero]
      refine ⟨?_, ?_⟩
      · rw [if_pos (by rfl)]
        intro kk hlo hhi ff W hW
        have q := hW.first rfl hlo
        unfold Oper.wp
        simp [go_sem, q]
        try exact ⟨_, rfl, rfl⟩
      simp only [Act.put, JobX.val, List.setIfInBounds_toArray, List.set_cons_succ, List.set_cons_zero]
      refine ⟨?_, ?_⟩
      · rw [if_pos (by rfl)]
        intro kk hlo hhi ff W hW
        unfold Oper.wp
        simp [go_sem]
        try exact ⟨_, rfl, rfl⟩
      simp only [Act.put, JobX.val, List.setIfInBounds_toArray, List.set_cons_succ, List.set_cons_zero]
      refine ⟨?_, ?_⟩
      · rw [if_pos (by rfl)]
        intro ff W hwt hW
        have hN := hW.c0 hW.bel.size
        unfold Oper.wp
        simp [go_sem]
        first | exact hN | exact ⟨_, rfl, hN⟩
      simp only [Act.put, JobX.val, List.setIfInBounds_toArray, List.set_cons_succ, List.set_cons_zero]
      refine ⟨?_, ?_⟩
      · rw [if_pos (by rfl)]
        intro kk hlo hhi ff W hW
        unfold Oper.wp
        simp [go_sem]
        try exact ⟨_, rfl, rfl⟩
      simp only [Act.put, JobX.val, List.setIfInBounds_toArray, List.set_cons_succ, List.set_cons_zero]
      refine ⟨?_, ?_⟩
      · rw [if_pos (by rfl)]
        intro ff W hwt hW
        obtain ⟨gE, hE, hrow⟩ := hW.empty rfl
        refine wp_append_objsF _ _ rfl w5.heap.size gE 0 0 [] hE hrow a n c w5.heap.size L HN.out.symm rfl (HOL.out W hW.bel) (by omega) hW.bel.size ?_
        intro v' w' h1 h2 h3
        rw [Nat.zero_add, List.nil_append] at h1 h3
        exact ⟨_, rfl, hW.c1 hE hrow h1 h2 h3⟩
      simp only [Act.put, JobX.val, List.setIfInBounds_toArray, List.set_cons_succ, List.set_cons_zero]
      refine ⟨?_, ?_⟩
      · rw [if_pos (by rfl)]
        intro kk hlo hhi ff W hW
        obtain ⟨q0, q1⟩ := HO5.out W hW.bel
        unfold Oper.wp
        simp [go_sem, q0, q1]
        try exact ⟨_, rfl, rfl⟩
      simp only [Act.put, JobX.val, List.setIfInBounds_toArray, List.set_cons_succ, List.set_cons_zero]
      refine ⟨?_, ?_⟩
      · rw [if_pos (by rfl)]
        intro kk W hW
        have hN := hW.fr hW.bel.size
        unfold Oper.wp
        simp [go_sem]
        first | exact hN | exact ⟨_, rfl, hN⟩
      simp only [Act.put, JobX.val, List.setIfInBounds_toArray, List.set_cons_succ, List.set_cons_zero]
      refine ⟨?_, ?_⟩
      · rw [if_pos (by rfl)]
        intro ff W hwt hW
        obtain ⟨gF, e1, e2, e3, e4, e5⟩ := hW.free (hwt rfl)
        have hrow := hW.many rfl
        refine wp_append_row _ _ 23 29 rfl _ 2 48 Try.info_object Try.underlying23 rfl (by decide) (by decide) w5.heap.size (vals 2) n (flatO L) rfl hrow (some ⟨gF, 0, none⟩) 1 1 [.slice none 0 0, .slice (some ⟨gS, 0, none⟩) 1 1] e1 rfl (fun _ => ⟨gF, 0, rfl, fun i u hu => by rw [Nat.zero_add, e3.cell]; simpa using hu⟩) (fun u hu => by simp only [List.mem_cons, List.not_mem_nil, or_false] at hu; rcases hu with rfl | rfl <;> rfl) (by omega) hW.bel.size ?_
        intro v' w' h1 h2
        exact ⟨_, rfl, hW.c2 (hwt rfl) h1 h2⟩
      simp only [Act.put, JobX.val, List.setIfInBounds_toArray, List.set_cons_succ, List.set_cons_zero]
      refine ⟨?_, ?_⟩
      · rw [if_pos (by rfl)]
        intro ff W hwt hW
        obtain ⟨ba, bc, hv, hc⟩ := HBAD.out W _ hW.bel (hW.more rfl)
        rw [hv]
        unfold Oper.wp
        simp [go_sem]
        refine hc.mono ?_
        rintro e w' ⟨rfl, hb⟩
        have hN := hW.c3 hb
        first | exact hN | exact ⟨_, rfl, hN⟩
      simp only [Act.put, JobX.val, List.setIfInBounds_toArray, List.set_cons_succ, List.set_cons_zero]
      refine ⟨?_, ?_⟩
      · rw [if_pos (by rfl)]
        intro kk hlo hhi ff W hW
        obtain rfl : kk = 5 := by omega
        have q := hW.last rfl
        unfold Oper.wp
        simp [go_sem, q]
        try exact ⟨_, rfl, rfl⟩
      simp only [Act.put, JobX.val, List.setIfInBounds_toArray, List.set_cons_succ, List.set_cons_zero]
      refine ⟨?_, ?_⟩
      · rw [if_pos (by rfl)]
        intro kk hlo hhi ff W hW
        unfold Oper.wp
        simp [go_sem]
        try exact ⟨_, rfl, rfl⟩
      simp only [Act.put, JobX.val, List.setIfInBounds_toArray, List.set_cons_succ, List.set_cons_zero]
      refine ⟨?_, ?_⟩
      · rw [if_pos (by rfl)]
        intro kk hlo hhi ff W hW
        unfold Oper.wp
        simp [go_sem]
        try exact ⟨_, rfl, rfl⟩
      simp only [Act.put, JobX.val, List.setIfInBounds_toArray, List.set_cons_succ, List.set_cons_zero]
      refine ⟨?_, ?_⟩
      · rw [if_pos (by rfl)]
        intro kk hlo hhi ff W hW
        unfold Oper.wp
        simp [go_sem]
        refine (alive_any W).mono ?_
        rintro e w' ⟨rfl, rfl⟩
        first | exact ⟨_, rfl, rfl⟩ | exact ⟨rfl, rfl⟩
      simp only [Act.put, JobX.val, List.setIfInBounds_toArray, List.set_cons_succ, List.set_cons_zero]
      refine ⟨?_, ?_⟩
      · rw [if_pos (by rfl)]
        intro kk hlo hhi ff W hW
        unfold Oper.wp
        simp [go_sem]
        try exact ⟨_, rfl, rfl⟩
      simp only [Act.put, JobX.val, List.setIfInBounds_toArray, List.set_cons_succ, List.set_cons_zero]
      refine ⟨?_, trivial⟩
      rw [if_pos (by rfl)]
      intro kk hlo hhi ff W hW
      unfold Oper.wp
      simp [go_sem]
      try exact ⟨_, rfl, rfl⟩
    · intro ff W vals hff hJ
      simp only [putAll, List.map_cons, List.map_nil, JobX.val, Act.put, List.setIfInBounds_toArray, List.set_cons_succ, List.set_cons_zero]
      have HF : Hid (Below w.heap.size w W) := HB5.out.trans (hJ.bel.mono HB5.out.size)
      clear hJ HHALF HO5 HBAD HOL
      go_wp2_with fail
      go_ret
      exact ⟨rfl, HF.out⟩

end Go.Proofs.Ytiocchmlmcoieaa

/-
  impl.fixupCount, impl.objectTable, impl.ObjectLength and impl.WriteObject.
-/
import Derived.Test.YtjafekjcncmjjaaGreatBldI
import Derived.Test.YtjafekjcncmjjaaGreatOpenI
import Derived.Test.YtjafekjcncmjjaaGreatWant2
namespace Go.Proofs.YtjafekjcncmjjaaGreat
open Go.RowKit

set_option maxRecDepth 100000 in
set_option maxHeartbeats 2000000 in
theorem fixupCount_any (w : World) (B : Nat) (a1 a2 : Option Addr) (c1 c2 n m : Nat) (l : List Sp) (hn : n = l.length) (h1 : Sects w B a1 l) (hB : B ≤ w.heap.size) (hn8 : n ≤ 1000) (hf : ∀ y ∈ l, y.s.fixs.length ≤ 1000) :
    Calls Tryz.prog 52 #[.agg #[.slice a1 n c1, .slice a2 m c2]] w fun e w' => e = .returned (.int .i64 (manyFix l)) ∧ Below w.heap.size w w' := by
  have HN := hidden hn
  have H1 := hidden h1
  have HF := hidden hf
  clear hn h1 hf
  go_enter Tryz.func52, Tryz.ntmps52
  obtain ⟨X, hX⟩ : ∃ X : World, w.alloc (.cells #[.slice a1 n c1, .slice a2 m c2] 32) = X := ⟨_, rfl⟩
  have hb : Below w.heap.size w X := by rw [← hX]; exact (Below.refl _ _).alloc (Nat.le_refl _) _
  have hx : Has X w.heap.size 32 #[.slice a1 n c1, .slice a2 m c2] := by rw [← hX]; exact Has.new _ _ _
  have x0 := hx.cell 0
  have HX := hidden hX
  have HB := hidden hb
  clear hX hx hb
  go_wp2_with fail
  rw [HX.out]
  go_loopw [3, 9] (fun v i wr => ∃ k : Nat, v = .int .i64 (manyFix (l.take k)) ∧ i = .int .i64 k ∧ k ≤ n ∧ Hid (Below w.heap.size w wr)) (fun _ i _ => n - (intOf i).toNat)
  case atStart => exact ⟨0, by simp [manyFix], rfl, Nat.zero_le _, HB.out⟩
  case round =>
    obtain ⟨k, rfl, rfl, hk, hbw⟩ := hrel
    clear HB x0
    by_cases hlt : k < n
    · have hi : (k : Int) < (n : Int) := by omega
      have hkl : k < l.length := by rw [← HN.out]; exact hlt
      obtain ⟨b, off, rfl, hbB, hp⟩ := (H1.out.below (hbw.out.mono hB)).at_ hkl
      obtain ⟨y, hy⟩ : ∃ y, l[k] = y := ⟨_, rfl⟩
      rw [hy] at hp
      obtain ⟨p0, p1, p2, p3, p4, p5⟩ := hp
      have hy2 : l[k]? = some y := by rw [List.getElem?_eq_getElem hkl, hy]
      have hyl := HF.out y (by rw [← hy]; exact List.getElem_mem hkl)
      have hm1 : manyFix (l.take k) ≤ 1000 * k := by
        have := manyFix_le (l.take k) (fun z hz => HF.out z (List.mem_of_mem_take hz))
        rw [List.length_take] at this
        exact Nat.le_trans this (Nat.mul_le_mul_left _ (Nat.min_le_left _ _))
      have hs := hidden (manyFix_snoc l k y hy2)
      obtain ⟨q, hq⟩ : ∃ q, manyFix (l.take k) = q := ⟨_, rfl⟩
      obtain ⟨u, hu⟩ : ∃ u, y.s.fixs.length = u := ⟨_, rfl⟩
      rw [hq] at hm1 hs ⊢
      rw [hu] at hs hyl p5
      have hwr : IntKind.i64.wrap ((q : Int) + (u : Int)) = (q : Int) + (u : Int) := IntWalk.i64_in _ (by omega)
      have hbw2 := hidden (hbw.out.alloc hbw.out.size (.cells #[.string y.s.name, .int .i64 y.s.kind, .int .i64 y.s.align, .slice y.a1 y.s.bytes.length y.c1, .int .i64 y.s.size, .slice y.a2 u y.c2] 51))
      clear hy hy2 hkl hq hu hbw
      go_wp2_with fail
      go_roundw
      case rel => exact ⟨k + 1, by rw [hs.out]; go_num, by go_num, by omega, hbw2⟩
      case measure => simp [intOf]; omega
    · have hi : ¬ (k : Int) < (n : Int) := by omega
      have ht : l.take k = l := List.take_of_length_le (by rw [← HN.out]; omega)
      rw [ht]
      go_wp2_with fail
      go_ret
      exact ⟨rfl, hbw.out⟩
/-- The header: how many fixups, the header's bytes, the builder with them. -/
structure JHdr (wB W0 : World) (tv : Value) (L nb : List Int) (ob : Nat) (t : TypeId) (cs : Array Value) (F : Nat) (k : Nat) (W : World) (vals : Nat → Value) : Prop where
  keeps : Keeps W0 W
  below : Below wB.heap.size wB W
  has : Has W ob t cs
  tab : W.cell? ⟨wB.heap.size, 0, none⟩ = some tv
  bld : k ≤ 2 → Bld wB tv L W
  fix : vals 0 = .int .i64 F
  head : k = 2 → ∃ ad c, vals 1 = .slice ad 10 c ∧ Ints W .u8 W.heap.size ad nb
  fin : k = 3 → Bld wB tv (L ++ nb) W
set_option maxRecDepth 100000 in
set_option maxHeartbeats 2000000 in
theorem putHeader_bld (wB W0 : World) (ta : Option Addr) (K tc : Nat) (h : Bld wB (.slice ta K tc) [] W0) (a1 a2 : Option Addr) (c1 c2 n m F : Nat) (P0 : List Int) (hP : P0.length = 10)
    (hfc : ∀ W, Below wB.heap.size wB W → Calls Tryz.prog 52 #[.agg #[.slice a1 n c1, .slice a2 m c2]] W fun e w' => e = .returned (.int .i64 F) ∧ Below W.heap.size W w')
    (hph : ∀ W, Calls Tryz.prog 51 #[.agg #[.int .i64 n, .int .i64 m, .int .i64 F, .int .i64 K]] W fun e w' => ∃ ad c, e = .returned (.slice ad 10 c) ∧ Ints w' .u8 w'.heap.size ad P0 ∧ Below W.heap.size W w') :
    Calls Tryz.prog 27 #[.pointer (some ⟨wB.heap.size, 0, none⟩), .agg #[.slice a1 n c1, .slice a2 m c2]] W0 (Built wB W0 (.slice ta K tc) P0) := by
  have HFC := hidden hfc
  have HPH := hidden hph
  have HP := hidden hP
  have hh0 : Has (W0.alloc (.cells #[.slice a1 n c1, .slice a2 m c2] 32)) W0.heap.size 32 #[.slice a1 n c1, .slice a2 m c2] := Has.new _ _ _
  have hb0 := h.alloc (.cells #[.slice a1 n c1, .slice a2 m c2] 32)
  have hJ0 : Hid (JHdr wB W0 (.slice ta K tc) [] P0 W0.heap.size 32 #[.slice a1 n c1, .slice a2 m c2] F 0 (W0.alloc (.cells #[.slice a1 n c1, .slice a2 m c2] 32)).drew fun _ => .int .i64 F) := ⟨((Keeps.refl W0).alloc _).trans (.below ⟨rfl, rfl, rfl, Nat.le_refl _, fun _ _ => rfl⟩), hb0.drew.below, hh0.drew, hb0.drew.table, fun _ => hb0.drew, rfl, fun h => absurd h (by decide), fun h => absurd h (by decide)⟩
  clear h hfc hph hP hh0 hb0
  go_enter Tryz.func27, Tryz.ntmps27
  go_upto_region 1 with fail
  refine wp_region_chain (m := 3) (js := [.quiet (.pointer (some ⟨wB.heap.size, 0, none⟩)) 3, .quiet (.pointer (some ⟨W0.heap.size, 0, none⟩)) 3, .quiet (.slice a1 n c1) 3, .quiet (.int .i64 n) 3, .quiet (.pointer (some ⟨W0.heap.size, 1, none⟩)) 3, .quiet (.slice a2 m c2) 3, .quiet (.int .i64 m) 3, .quiet (.agg #[.slice a1 n c1, .slice a2 m c2]) 3, .chain 0, .quiet (.pointer (some ⟨wB.heap.size, 0, none⟩)) 3, .quiet (.pointer (some ⟨wB.heap.size, 0, none⟩)) 3, .quiet (.pointer (some ⟨wB.heap.size, 0, none⟩)) 3, .quiet (.slice ta K tc) 3, .quiet (.int .i64 K) 3, .quiet (.agg #[.int .i64 n, .int .i64 m, .int .i64 F, .int .i64 K]) 3, .chain 1, .chain 2]) (by kernel_rfl) (JHdr wB W0 (.slice ta K tc) [] P0 W0.heap.size 32 #[.slice a1 n c1, .slice a2 m c2] F) (by kernel_rfl) (by kernel_rfl) ⟨_, hJ0.out⟩ (fun vals => ?_) ?_
  · show SeqW _ _ _ _ _ _ _
    refine ⟨fun kk hkk W hW => ?_, ?_⟩
    · unfold Oper.wp
      simp [go_sem]
      try exact ⟨_, rfl, rfl⟩
    simp only [Act.put, List.setIfInBounds_toArray, List.set_cons_succ, List.set_cons_zero]
    refine ⟨fun kk hkk W hW => ?_, ?_⟩
    · unfold Oper.wp
      simp [go_sem]
      try exact ⟨_, rfl, rfl⟩
    simp only [Act.put, List.setIfInBounds_toArray, List.set_cons_succ, List.set_cons_zero]
    refine ⟨fun kk hkk W hW => ?_, ?_⟩
    · have q1 := (hW.has.cell 0 : W.cell? ⟨W0.heap.size, 0, none⟩ = some (.slice a1 n c1))
      unfold Oper.wp
      simp [go_sem, q1]
      try exact ⟨_, rfl, rfl⟩
    simp only [Act.put, List.setIfInBounds_toArray, List.set_cons_succ, List.set_cons_zero]
    refine ⟨fun kk hkk W hW => ?_, ?_⟩
    · unfold Oper.wp
      simp [go_sem]
      try exact ⟨_, rfl, rfl⟩
    simp only [Act.put, List.setIfInBounds_toArray, List.set_cons_succ, List.set_cons_zero]
    refine ⟨fun kk hkk W hW => ?_, ?_⟩
    · unfold Oper.wp
      simp [go_sem]
      try exact ⟨_, rfl, rfl⟩
    simp only [Act.put, List.setIfInBounds_toArray, List.set_cons_succ, List.set_cons_zero]
    refine ⟨fun kk hkk W hW => ?_, ?_⟩
    · have q1 := (hW.has.cell 1 : W.cell? ⟨W0.heap.size, 1, none⟩ = some (.slice a2 m c2))
      unfold Oper.wp
      simp [go_sem, q1]
      try exact ⟨_, rfl, rfl⟩
    simp only [Act.put, List.setIfInBounds_toArray, List.set_cons_succ, List.set_cons_zero]
    refine ⟨fun kk hkk W hW => ?_, ?_⟩
    · unfold Oper.wp
      simp [go_sem]
      try exact ⟨_, rfl, rfl⟩
    simp only [Act.put, List.setIfInBounds_toArray, List.set_cons_succ, List.set_cons_zero]
    refine ⟨fun kk hkk W hW => ?_, ?_⟩
    · have q0 := (hW.has.cell 0 : W.cell? ⟨W0.heap.size, 0, none⟩ = some (.slice a1 n c1))
      have q1 := (hW.has.cell 1 : W.cell? ⟨W0.heap.size, 1, none⟩ = some (.slice a2 m c2))
      unfold Oper.wp
      simp [go_sem, q0, q1]
      try exact ⟨_, rfl, rfl⟩
    simp only [Act.put, List.setIfInBounds_toArray, List.set_cons_succ, List.set_cons_zero]
    refine ⟨fun W hW => ?_, ?_⟩
    · unfold Oper.wp
      simp [go_sem]
      refine (HFC.out W hW.below).mono ?_
      rintro e w' ⟨rfl, hb⟩
      have hB := (hW.bld (by decide)).call hb
      have hN : JHdr wB W0 (.slice ta K tc) [] P0 W0.heap.size 32 #[.slice a1 n c1, .slice a2 m c2] F 1 w' (upd vals 0 (.int .i64 F)) := ⟨hW.keeps.trans (.below hb), hB.below, hW.has.below hb hW.has.lt, hB.table, fun _ => hB, rfl, fun h => absurd h (by decide), fun h => absurd h (by decide)⟩
      first | exact hN | exact ⟨_, rfl, hN⟩
    simp only [Act.put, List.setIfInBounds_toArray, List.set_cons_succ, List.set_cons_zero]
    refine ⟨fun kk hkk W hW => ?_, ?_⟩
    · unfold Oper.wp
      simp [go_sem]
      try exact ⟨_, rfl, rfl⟩
    simp only [Act.put, List.setIfInBounds_toArray, List.set_cons_succ, List.set_cons_zero]
    refine ⟨fun kk hkk W hW => ?_, ?_⟩
    · unfold Oper.wp
      simp [go_sem]
      try exact ⟨_, rfl, rfl⟩
    simp only [Act.put, List.setIfInBounds_toArray, List.set_cons_succ, List.set_cons_zero]
    refine ⟨fun kk hkk W hW => ?_, ?_⟩
    · unfold Oper.wp
      simp [go_sem]
      try exact ⟨_, rfl, rfl⟩
    simp only [Act.put, List.setIfInBounds_toArray, List.set_cons_succ, List.set_cons_zero]
    refine ⟨fun kk hkk W hW => ?_, ?_⟩
    · have q1 := hW.tab
      unfold Oper.wp
      simp [go_sem, q1]
      try exact ⟨_, rfl, rfl⟩
    simp only [Act.put, List.setIfInBounds_toArray, List.set_cons_succ, List.set_cons_zero]
    refine ⟨fun kk hkk W hW => ?_, ?_⟩
    · unfold Oper.wp
      simp [go_sem]
      try exact ⟨_, rfl, rfl⟩
    simp only [Act.put, List.setIfInBounds_toArray, List.set_cons_succ, List.set_cons_zero]
    refine ⟨fun kk hkk W hW => ?_, ?_⟩
    · have q1 := hW.fix
      unfold Oper.wp
      simp [go_sem, q1]
      try exact ⟨_, rfl, rfl⟩
    simp only [Act.put, List.setIfInBounds_toArray, List.set_cons_succ, List.set_cons_zero]
    refine ⟨fun W hW => ?_, ?_⟩
    · have q1 := hW.fix
      unfold Oper.wp
      simp [go_sem]
      try rw [q1]
      refine (HPH.out W).mono ?_
      rintro e w' ⟨ad, c, rfl, hi, hb⟩
      have hB := (hW.bld (by decide)).call hb
      have hN : JHdr wB W0 (.slice ta K tc) [] P0 W0.heap.size 32 #[.slice a1 n c1, .slice a2 m c2] F 2 w' (upd vals 1 (.slice ad 10 c)) := ⟨hW.keeps.trans (.below hb), hB.below, hW.has.below hb hW.has.lt, hB.table, fun _ => hB, hW.fix, fun _ => ⟨ad, c, rfl, hi⟩, fun h => absurd h (by decide)⟩
      first | exact hN | exact ⟨_, rfl, hN⟩
    simp only [Act.put, List.setIfInBounds_toArray, List.set_cons_succ, List.set_cons_zero]
    refine ⟨fun W hW => ?_, trivial⟩
    obtain ⟨ad, c, hv, hi⟩ := hW.head rfl
    unfold Oper.wp
    simp [go_sem, hv]
    refine (putBytes_bld wB W (.slice ta K tc) [] (hW.bld (by decide)) ad 10 c P0 HP.out.symm hi (by simp)).mono ?_
    rintro e w' ⟨rfl, hb, hk⟩
    have hN : JHdr wB W0 (.slice ta K tc) [] P0 W0.heap.size 32 #[.slice a1 n c1, .slice a2 m c2] F 3 w' (upd vals 2 (.tuple #[])) := ⟨hW.keeps.trans hk, hb.below, hk.2 _ _ _ (by decide) (by decide) hW.has, hb.table, fun h => absurd h (by decide), hW.fix, fun h => absurd h (by decide), fun _ => hb⟩
    first | exact hN | exact ⟨_, rfl, hN⟩
  · intro W vals hJ
    have HF : Hid (Built wB W0 (.slice ta K tc) P0 (.returned (.tuple #[])) W) := ⟨rfl, hJ.fin rfl, hJ.keeps⟩
    simp only [putAll, List.map_cons, List.map_nil, Job.val, Act.put, List.setIfInBounds_toArray, List.set_cons_succ, List.set_cons_zero]
    clear hJ hJ0 HFC HPH HP
    go_wp2_with fail
    go_end0
    exact HF.out
set_option maxRecDepth 100000 in
set_option maxHeartbeats 4000000 in
theorem objectTable_any (want : WantNameTable) (w : World) (B : Nat) (a1 a2 : Option Addr) (c1 c2 n m : Nat) (l : List Sp) (ms : List Sm) (hn : n = l.length) (hm : m = ms.length) (h1 : Sects w B a1 l) (h2 : Syms w B a2 ms) (hB : B ≤ w.heap.size) (hn8 : n ≤ 1000) (hm8 : m ≤ 1000) (hns : ∀ x ∈ allNames l ms, x.size ≤ maxLen) :
    Calls Tryz.prog 26 #[.agg #[.slice a1 n c1, .slice a2 m c2]] w (Tabled w (nameTab (allNames l ms))) := by
  have HN := hidden hn
  have HM := hidden hm
  have H1 := hidden h1
  have H2 := hidden h2
  have hnl : (allNames l ms).length = n + m := by unfold allNames; rw [List.length_append, List.length_map, List.length_map, ← hn, ← hm]
  have HNL := hidden hnl
  have HNS := hidden hns
  clear hn hm h1 h2 hnl hns
  go_enter Tryz.func26, Tryz.ntmps26
  obtain ⟨i0, hi, hz0, hz1, hz2⟩ := info_parts Tryz.info_str
  obtain ⟨X, hX⟩ : ∃ X : World, w.alloc (.cells #[.slice a1 n c1, .slice a2 m c2] 32) = X := ⟨_, rfl⟩
  have hbX : Below w.heap.size w X := by rw [← hX]; exact (Below.refl _ _).alloc (Nat.le_refl _) _
  have hx : Has X w.heap.size 32 #[.slice a1 n c1, .slice a2 m c2] := by rw [← hX]; exact Has.new _ _ _
  have hXs : X.heap.size = w.heap.size + 1 := by rw [← hX]; simp
  have HC : Hid (∀ W, Below (w.heap.size + 1) X W → W.cell? ⟨w.heap.size, 0, none⟩ = some (.slice a1 n c1) ∧ W.cell? ⟨w.heap.size, 1, none⟩ = some (.slice a2 m c2)) := fun W hW => ⟨(hW.cell (Nat.lt_succ_self _)).trans (hx.cell 0), (hW.cell (Nat.lt_succ_self _)).trans (hx.cell 1)⟩
  have x0 : X.cell? ⟨w.heap.size, 0, none⟩ = some (.slice a1 n c1) := hx.cell 0
  have hrow0 : Hid (X.ownsRow (w.heap.size + 1) 9 1 (.slice none 0 0) 0 []) := World.ownsRow_nil _ _ _ _
  have HX := hidden hX
  have HB := hidden hB
  have HXS := hidden hXs
  have HBX := hidden hbX
  obtain ⟨LN, hLN⟩ : ∃ L, L = l.map (fun y => Value.string y.s.name) := ⟨_, rfl⟩
  obtain ⟨LM, hLM⟩ : ∃ L, L = ms.map (fun y => Value.string y.name) := ⟨_, rfl⟩
  have HLN := hidden hLN
  have HLM := hidden hLM
  have hall : (allNames l ms).map Value.string = LN ++ LM := by rw [hLN, hLM]; unfold allNames; rw [List.map_append, List.map_map, List.map_map]; rfl
  have HALL := hidden hall
  clear hLN hLM hall hX hx hB hXs hbX
  go_wp2_with fail
  rw [HX.out]
  go_loopw [3, 11] (fun v i wr => ∃ k : Nat, i = .int .i64 k ∧ k ≤ n ∧ Hid (wr.ownsRow (w.heap.size + 1) 9 1 v k (LN.take k)) ∧ Hid (Below (w.heap.size + 1) X wr)) (fun _ i _ => n - (intOf i).toNat)
  case atStart => exact ⟨0, rfl, Nat.zero_le _, (by show World.ownsRow _ _ _ _ _ _ _; simpa using hrow0.out), Below.refl _ _⟩
  case round =>
    obtain ⟨k, rfl, hk, hrow, hbw⟩ := hrel
    clear hrow0 x0
    have hb0 := hidden (HBX.out.trans (hbw.out.mono (Nat.le_succ _)))
    have hszr : w.heap.size + 1 ≤ wr.heap.size := by have := hbw.out.size; have := HXS.out; omega
    by_cases hlt : k < n
    · have hilt : (k : Int) < (n : Int) := by omega
      have hkl : k < l.length := by rw [← HN.out]; exact hlt
      obtain ⟨b, off, rfl, hbB, hp⟩ := (H1.out.below (hb0.out.mono HB.out)).at_ hkl
      obtain ⟨y, hy⟩ : ∃ y, l[k] = y := ⟨_, rfl⟩
      rw [hy] at hp
      obtain ⟨p0, p1, p2, p3, p4, p5⟩ := hp
      have hT : Hid (LN.take (k + 1) = LN.take k ++ [.string y.s.name]) := by
        show _ = _
        rw [List.take_add_one, HLN.out, List.getElem?_map, List.getElem?_eq_getElem hkl, hy]; rfl
      have HO := hidden ((hrow.out.alloc (.cells #[.string y.s.name, .int .i64 y.s.kind, .int .i64 y.s.align, .slice y.a1 y.s.bytes.length y.c1, .int .i64 y.s.size, .slice y.a2 y.s.fixs.length y.c2] 51)).alloc (.cells #[.string y.s.name] 9))
      have hlow : Hid (∀ q, _ = some q → w.heap.size + 1 ≤ q) := fun q hq => (hrow.out.lt q hq).1
      have hbw1 := hidden ((hbw.out.alloc hszr (.cells #[.string y.s.name, .int .i64 y.s.kind, .int .i64 y.s.align, .slice y.a1 y.s.bytes.length y.c1, .int .i64 y.s.size, .slice y.a2 y.s.fixs.length y.c2] 51)).alloc (by simp; omega) (.cells #[.string y.s.name] 9))
      have hc1 : ((wr.alloc (.cells #[.string y.s.name, .int .i64 y.s.kind, .int .i64 y.s.align, .slice y.a1 y.s.bytes.length y.c1, .int .i64 y.s.size, .slice y.a2 y.s.fixs.length y.c2] 51)).alloc (.cells #[.string y.s.name] 9)).cell? ⟨wr.heap.size + 1, 0, none⟩ = some (.string y.s.name) := by simp
      clear hy hkl hrow hbw
      go_wp2_with (at_builtin; refine wpList_append_own _ rfl _ _ 43 rfl (w.heap.size + 1) 9 i0 (.string ⟨#[]⟩) 1 16 Tryz.underlying43 hi hz0 hz1 hz2 rfl (by decide) _ _ _ rfl HO.out ⟨wr.heap.size + 1, 0, none⟩ 1 1 [.string y.s.name] rfl rfl (fun t u ht => by
          match t, ht with
          | 0, ht => simp at ht; subst ht; simp [Addr.add]) (by intro u hu; simp at hu; subst hu; rfl) (by unfold maxLen; omega) (by omega) (by simp; omega) ?_)
      intro v' w2 hown hg _
      have hrow2 : Hid (w2.ownsRow (w.heap.size + 1) 9 1 v' (k + 1) (LN.take (k + 1))) := by
        show w2.ownsRow _ _ _ _ _ _
        rw [hT.out]; exact hown
      have hbw2 := hidden (hbw1.out.grown hg (by simp; omega) (fun q hq => hlow.out q hq))
      clear hown hg HO hlow hbw1 hb0 hc1 hT
      go_wp2_with fail
      go_roundw
      case rel => exact ⟨k + 1, by go_num, by omega, hrow2, hbw2⟩
      case measure => simp [intOf]; omega
    · have hilt : ¬ (k : Int) < (n : Int) := by omega
      have hkn : k = n := by omega
      subst hkn
      have ht : LN.take k = LN := List.take_of_length_le (by rw [HLN.out, List.length_map, ← HN.out]; omega)
      rw [ht] at hrow
      have x1 := (HC.out wr hbw.out).2
      clear hlt ht
      go_wp2_with fail
      clear hilt x1
      go_loopw [3, 24] (fun v i wr => ∃ j : Nat, i = .int .i64 j ∧ j ≤ m ∧ Hid (wr.ownsRow (w.heap.size + 1) 9 1 v (k + j) (LN ++ LM.take j)) ∧ Hid (Below (w.heap.size + 1) X wr)) (fun _ i _ => m - (intOf i).toNat)
      case atStart => exact ⟨0, rfl, Nat.zero_le _, (by show World.ownsRow _ _ _ _ _ _ _; simpa using hrow.out), hbw⟩
      case round =>
        clear hrow hbw hb0 hszr
        obtain ⟨j, rfl, hj, hrow, hbw⟩ := hrel
        have hb0 := hidden (HBX.out.trans (hbw.out.mono (Nat.le_succ _)))
        have hszr : w.heap.size + 1 ≤ wr.heap.size := by have := hbw.out.size; have := HXS.out; omega
        by_cases hlt : j < m
        · have hilt : (j : Int) < (m : Int) := by omega
          have hjl : j < ms.length := by rw [← HM.out]; exact hlt
          obtain ⟨b, off, rfl, hbB, p0, p1, p2, p3⟩ := (H2.out.below (hb0.out.mono HB.out)).at_ hjl
          obtain ⟨y, hy⟩ : ∃ y, ms[j] = y := ⟨_, rfl⟩
          rw [hy] at p0 p1 p2 p3
          have hT : Hid (LN ++ LM.take (j + 1) = (LN ++ LM.take j) ++ [.string y.name]) := by
            show _ = _
            rw [List.take_add_one, HLM.out, List.getElem?_map, List.getElem?_eq_getElem hjl, hy, List.append_assoc]; rfl
          have HO := hidden ((hrow.out.alloc (.cells #[.string y.name, .int .i64 y.bind, .int .i64 y.loc, .int .i64 y.value] 56)).alloc (.cells #[.string y.name] 9))
          have hlow : Hid (∀ q, _ = some q → w.heap.size + 1 ≤ q) := fun q hq => (hrow.out.lt q hq).1
          have hbw1 := hidden ((hbw.out.alloc hszr (.cells #[.string y.name, .int .i64 y.bind, .int .i64 y.loc, .int .i64 y.value] 56)).alloc (by simp; omega) (.cells #[.string y.name] 9))
          have hc1 : ((wr.alloc (.cells #[.string y.name, .int .i64 y.bind, .int .i64 y.loc, .int .i64 y.value] 56)).alloc (.cells #[.string y.name] 9)).cell? ⟨wr.heap.size + 1, 0, none⟩ = some (.string y.name) := by simp
          clear hy hjl hrow hbw
          go_wp2_with (at_builtin; refine wpList_append_own _ rfl _ _ 43 rfl (w.heap.size + 1) 9 i0 (.string ⟨#[]⟩) 1 16 Tryz.underlying43 hi hz0 hz1 hz2 rfl (by decide) _ _ _ rfl HO.out ⟨wr.heap.size + 1, 0, none⟩ 1 1 [.string y.name] rfl rfl (fun t u ht => by
              match t, ht with
              | 0, ht => simp at ht; subst ht; simp [Addr.add]) (by intro u hu; simp at hu; subst hu; rfl) (by unfold maxLen; omega) (by omega) (by simp; omega) ?_)
          intro v' w2 hown hg _
          have hrow2 : Hid (w2.ownsRow (w.heap.size + 1) 9 1 v' (k + (j + 1)) (LN ++ LM.take (j + 1))) := by
            show w2.ownsRow _ _ _ _ _ _
            rw [hT.out, List.append_assoc]; exact hown
          have hbw2 := hidden (hbw1.out.grown hg (by simp; omega) (fun q hq => hlow.out q hq))
          clear hown hg HO hlow hbw1 hb0 hc1 hT
          go_wp2_with fail
          go_roundw
          case rel => exact ⟨j + 1, by go_num, by omega, hrow2, hbw2⟩
          case measure => simp [intOf]; omega
        · have hilt : ¬ (j : Int) < (m : Int) := by omega
          have hjm : j = m := by omega
          subst hjm
          have ht : LM.take j = LM := List.take_of_length_le (by rw [HLM.out, List.length_map, ← HM.out]; omega)
          rw [ht] at hrow
          have hrow3 := hrow.out
          rw [← HALL.out] at hrow3
          have hrow4 : wr.ownsRow (w.heap.size + 1) 9 1 u3 ((allNames l ms).map Value.string).length ((allNames l ms).map Value.string) := by rw [List.length_map, HNL.out]; exact hrow3
          obtain ⟨va, vc, hnv, _, hvv⟩ := vals_of_own hrow4
          rw [List.length_map, HNL.out] at hnv
          subst hnv
          have hNT := want wr wr.heap.size va vc (allNames l ms) hvv (Nat.le_refl _) (by rw [HNL.out]; omega) HNS.out
          obtain ⟨TT, hTT⟩ : ∃ TT, nameTab (allNames l ms) = TT := ⟨_, rfl⟩
          rw [HNL.out, hTT] at hNT
          unfold Tabled at hNT
          obtain ⟨K, hK⟩ : ∃ K, TT.length = K := ⟨_, rfl⟩
          rw [hK] at hNT
          have HTT := hidden hTT
          have HK := hidden hK
          have HNT := hidden hNT
          clear hNT hvv hrow hrow3 hrow4 hTT hK
          go_wp2_with fail
          refine HNT.out.mono ?_
          clear HNT
          rintro e wT ⟨ta, tc, rfl, htc, htm, hti, hbT⟩
          have HF : Hid (Tabled w (nameTab (allNames l ms)) (.returned (.slice ta K tc)) wT) := by
            show Tabled _ _ _ _
            rw [HTT.out]
            unfold Tabled
            rw [HK.out]
            exact ⟨ta, tc, rfl, htc, htm, hti, hb0.out.trans (hbT.mono hb0.out.size)⟩
          clear htc htm hti hbT hb0
          go_wp2_with fail
          go_ret
          exact HF.out
/-- The sum: the table, its length, and what they come to. -/
structure JLen (w2 : World) (K : Nat) (T : Int) (k : Nat) (W : World) (vals : Nat → Value) : Prop where
  below : Below w2.heap.size w2 W
  tab : k = 1 → ∃ a c, vals 0 = .slice a K c
  len : k = 2 → vals 1 = .int .i64 K
  all : k = 3 → vals 2 = .int .i64 T
  fin : k = 4 → vals 3 = .int .i64 T
theorem names_short {l : List Sp} {ms : List Sm} (hl : ∀ y ∈ l, y.s.fits) (hs : ∀ x ∈ ms, x.fits) : ∀ x ∈ allNames l ms, x.size ≤ maxLen := fun x hx => by
  unfold allNames at hx
  rcases List.mem_append.1 hx with h | h
  · obtain ⟨y, hy, rfl⟩ := List.mem_map.1 h; exact (hl y hy).name
  · obtain ⟨y, hy, rfl⟩ := List.mem_map.1 h; exact (hs y hy).name














































































































































































































end Go.Proofs.YtjafekjcncmjjaaGreat

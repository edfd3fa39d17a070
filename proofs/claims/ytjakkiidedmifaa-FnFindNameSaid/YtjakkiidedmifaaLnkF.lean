/-
  impl.FindName and spec.FindName.
-/
import Derived.Test.YtjakkiidedmifaaLnkU
namespace Go.Proofs.Ytjakkiidedmifaa
open Go.RowKit

/-- What is answered of a name. -/
def FoundA (w : World) (u : Use) (e : Ending) (w' : World) : Prop := e = .returned (.tuple #[.agg #[.int .i64 u.inn, .int .i64 u.at_], .bool u.given]) ∧ Below w.heap.size w w'
theorem itemsA_is {L : List Oj} {n : Nat} (hn : n = L.length) : itemsA (L.map Oj.o) = itemsUp (L.map Oj.ms) n := by
  unfold itemsA
  rw [List.map_map, List.length_map, ← hn]
  rfl
theorem valid_few {L : List Oj} (h : validA (L.map Oj.o) = true) : L.length ≤ 4 ∧ ∀ y ∈ L, objOk (y.l.map Sp.s) y.ms = true ∧ y.ms.length ≤ 12 := by
  obtain ⟨h1, h2⟩ := validA_parts h
  rw [List.length_map] at h1
  refine ⟨h1, fun y hy => ?_⟩
  have := h2 y.o (List.mem_map_of_mem hy)
  exact ⟨this, (okSyms this).2.2.2⟩
theorem below_two {w Z : World} (h : Below w.heap.size w Z) (u v : Value) : Below w.heap.size w ((Z.setCell ⟨w.heap.size, 0, none⟩ u).setCell ⟨w.heap.size, 1, none⟩ v) :=
  (h.setCell (p := ⟨w.heap.size, 0, none⟩) (Nat.le_refl _) _).setCell (p := ⟨w.heap.size, 1, none⟩) (Nat.le_refl _) _
/-- Around the store of what was found. -/
structure JN (w : World) (q3 : Nat) (u : Use) (k : Nat) (Z : World) : Prop where
  bel : Below w.heap.size w Z
  use : Has Z q3 62 #[.int .i64 u.inn, .int .i64 u.at_, .bool u.given, .int .i64 u.strong, .bool u.wanted]
  res : Has Z w.heap.size 32 (if k = 0 then #[.int .i64 0, .int .i64 0] else #[.int .i64 u.inn, .int .i64 u.at_])
set_option maxRecDepth 100000 in
set_option maxHeartbeats 4000000 in
theorem findName_any (w : World) (B : Nat) (a : Option Addr) (c n : Nat) (L : List Oj) (hn : n = L.length) (h : Objs w B a L) (hB : B ≤ w.heap.size) (hlen : n ≤ 9223372036854775807) (hf : ∀ y ∈ L, y.fits) (s : ByteArray) (hs : s.size ≤ maxLen) :
    Calls Try.prog 16 #[.slice a n c, .string s] w (FoundA w (findA (L.map Oj.o) s)) := by
  obtain ⟨U, hU⟩ : ∃ q, findA (L.map Oj.o) s = q := ⟨_, rfl⟩
  rw [hU]
  have hb0 : Below w.heap.size w (w.alloc (.cells #[.int .i64 0, .int .i64 0] 32)) := (Below.refl _ _).alloc (Nat.le_refl _) _
  have hR0 : Has (w.alloc (.cells #[.int .i64 0, .int .i64 0] 32)) w.heap.size 32 #[.int .i64 0, .int .i64 0] := Has.new _ _ _
  have hOV := objectsValid_any (w.alloc (.cells #[.int .i64 0, .int .i64 0] 32)) B a c n L hn (h.below (hb0.mono hB)) (Nat.le_trans hB hb0.size) hlen hf
  obtain ⟨ok, hok⟩ : ∃ q, validA (L.map Oj.o) = q := ⟨_, rfl⟩
  rw [hok] at hOV
  have HNU : Hid (∀ W, Below w.heap.size w W → ok = true → Calls Try.prog 45 #[.slice a n c] W fun e w' => ∃ b, e = .returned (.map (some b)) ∧ W.heap.size ≤ b ∧ UseMap w' b 48 (itemsA (L.map Oj.o)) ∧ Below W.heap.size W w') := fun W hW e => by
    obtain ⟨q1, q2⟩ := valid_few (hok.trans e)
    have := nameUses_any W B a c n L hn (h.below (hW.mono hB)) (Nat.le_trans hB hW.size) (by omega) (fun y hy => ⟨(q2 y hy).2, fun x hx => ((hf y hy).2.2.2 x hx).name⟩)
    rwa [← itemsA_is hn] at this
  have HUE : Hid (U = if ok then useOf s (itemsA (L.map Oj.o)) else Use.zero) := by show _ = _; rw [← hU, ← hok]; rfl
  have HOV := hidden hOV
  have HR0 := hidden hR0
  have HB0 := hidden hb0
  clear hU hb0 hR0 hOV hok h hn hf
  go_enter Try.func16, Try.ntmps16
  go_wp2_with fail
  refine HOV.out.mono ?_
  clear HOV
  rintro e w1 ⟨rfl, hb1⟩
  have hB1 := HB0.out.trans (hb1.mono HB0.out.size)
  have hR1 := HR0.out.below hb1 HR0.out.lt
  have r0 : w1.cell? ⟨w.heap.size, 0, none⟩ = some (.int .i64 0) := hR1.cell 0
  have r1 : w1.cell? ⟨w.heap.size, 1, none⟩ = some (.int .i64 0) := hR1.cell 1
  have f0 : w1.frozen? ⟨w.heap.size, 0, none⟩ = false := hR1.free 0
  have f1 : w1.frozen? ⟨w.heap.size, 1, none⟩ = false := hR1.free 1
  rcases ok with _ | _
  · have hUz : U = Use.zero := HUE.out
    subst hUz
    have HF : Hid (Has ((w1.setCell ⟨w.heap.size, 0, none⟩ (.int .i64 0)).setCell ⟨w.heap.size, 1, none⟩ (.int .i64 0)) w.heap.size 32 #[.int .i64 0, .int .i64 0]) := (hR1.put 0 _).put 1 _
    have HG := hidden (below_two hB1 (.int .i64 0) (.int .i64 0))
    clear HUE HNU hb1 hB1 hR1 HB0 HR0
    go_wp21
    refine bodyPost_ret (results_cell_row1 rfl _ _ w.heap.size 32 #[.int .i64 0, .int .i64 0] (0, 0) _ rfl HF.out Try.underlying32 rfl (by kernel_rfl)) rfl ?_
    exact ⟨rfl, HG.out⟩
  have hUe : U = useOf s (itemsA (L.map Oj.o)) := HUE.out
  have HN1 := hidden (HNU.out w1 hB1 rfl)
  have HB1 := hidden hB1
  have HR1 := hidden hR1
  have HUV := hidden hUe
  clear HUE HNU hb1 hB1 hR1 HB0 HR0 hUe r0 r1 f0 f1
  go_wp2_with fail
  refine HN1.out.mono ?_
  clear HN1
  rintro e w2 ⟨b, rfl, hbl, hmap, hb2⟩
  have hlk := hmap.look hs
  rw [← HUV.out] at hlk
  obtain ⟨ui, ua, ug, us, uw⟩ := U
  have hb3 : Below w2.heap.size w2 (w2.alloc (.cells #[.int .i64 ui, .int .i64 ua, .bool ug, .int .i64 us, .bool uw] 62)) := (Below.refl _ _).alloc (Nat.le_refl _) _
  have hU3 : Has (w2.alloc (.cells #[.int .i64 ui, .int .i64 ua, .bool ug, .int .i64 us, .bool uw] 62)) w2.heap.size 62 #[.int .i64 ui, .int .i64 ua, .bool ug, .int .i64 us, .bool uw] := Has.new _ _ _
  obtain ⟨W3, hW3⟩ : ∃ q, w2.alloc (.cells #[.int .i64 ui, .int .i64 ua, .bool ug, .int .i64 us, .bool uw] 62) = q := ⟨_, rfl⟩
  obtain ⟨q3, hq3⟩ : ∃ q, w2.heap.size = q := ⟨_, rfl⟩
  have hR2 := HR1.out.below hb2 HR1.out.lt
  have hqr : q3 ≠ w.heap.size := by have := hR2.lt; omega
  rw [hW3] at hb3 hU3
  rw [hq3] at hU3
  have HU3 := hidden hU3
  have HR3 := hidden (hR2.below hb3 hR2.lt)
  have HB3 := hidden ((HB1.out.trans (hb2.mono HB1.out.size)).trans (hb3.mono (HB1.out.trans (hb2.mono HB1.out.size)).size))
  have HW3 := hidden hW3
  have HQ3 := hidden hq3
  unfold Use.agg at hlk
  simp only at hlk
  clear hmap hb2 hb3 hU3 hR2 hW3 hq3 HB1 HR1 HUV hbl
  go_upto_region 4 with fail
  rw [HW3.out, HQ3.out]
  clear HW3 HQ3 hlk
  refine wp_region_free (m := 1) (js := [.quiet (.pointer (some ⟨q3, 0, none⟩)) 0 1, .quiet (.agg #[.int .i64 ui, .int .i64 ua]) 0 1, .quiet (.pointer (some ⟨q3, 2, none⟩)) 0 1, .quiet (.bool ug) 0 1, .chain 0 false, .quiet (.bool ug) 0 1]) (by kernel_rfl) (fun kk _ Z _ => JN w q3 ⟨ui, ua, ug, us, uw⟩ kk Z) (by kernel_rfl) (by kernel_rfl) ⟨fun _ => undef, ⟨HB3.out.drew, HU3.out.drew, HR3.out.drew⟩⟩ (fun vals => ?_) ?_
  · show SeqX _ _ _ _ _ _ _
    refine ⟨fun kk hlo hhi ff W hW => ?_, ?_⟩
    · unfold Oper.wp
      simp [go_sem]
      try exact ⟨_, rfl, rfl⟩
    simp only [Act.put, JobX.val, List.setIfInBounds_toArray, List.set_cons_succ, List.set_cons_zero]
    refine ⟨fun kk hlo hhi ff W hW => ?_, ?_⟩
    · have q0 : W.cell? ⟨q3, 0, none⟩ = some (.int .i64 ui) := hW.use.cell 0
      have q1 : W.cell? ⟨q3, 1, none⟩ = some (.int .i64 ua) := hW.use.cell 1
      unfold Oper.wp
      simp [go_sem, q0, q1]
      try exact ⟨_, rfl, rfl⟩
    simp only [Act.put, JobX.val, List.setIfInBounds_toArray, List.set_cons_succ, List.set_cons_zero]
    refine ⟨fun kk hlo hhi ff W hW => ?_, ?_⟩
    · unfold Oper.wp
      simp [go_sem]
      try exact ⟨_, rfl, rfl⟩
    simp only [Act.put, JobX.val, List.setIfInBounds_toArray, List.set_cons_succ, List.set_cons_zero]
    refine ⟨fun kk hlo hhi ff W hW => ?_, ?_⟩
    · have q2 : W.cell? ⟨q3, 2, none⟩ = some (.bool ug) := hW.use.cell 2
      unfold Oper.wp
      simp [go_sem, q2]
      try exact ⟨_, rfl, rfl⟩
    simp only [Act.put, JobX.val, List.setIfInBounds_toArray, List.set_cons_succ, List.set_cons_zero]
    refine ⟨fun ff W hwt hW => ?_, ?_⟩
    · have hres : Has W w.heap.size 32 #[.int .i64 0, .int .i64 0] := hW.res
      have q0 : W.cell? ⟨w.heap.size, 0, none⟩ = some (.int .i64 0) := hres.cell 0
      have q1 : W.cell? ⟨w.heap.size, 1, none⟩ = some (.int .i64 0) := hres.cell 1
      have f0 : W.frozen? ⟨w.heap.size, 0, none⟩ = false := hres.free 0
      have f1 : W.frozen? ⟨w.heap.size, 1, none⟩ = false := hres.free 1
      have hN : JN w q3 ⟨ui, ua, ug, us, uw⟩ 1 ((W.setCell ⟨w.heap.size, 0, none⟩ (.int .i64 ui)).setCell ⟨w.heap.size, 1, none⟩ (.int .i64 ua)) :=
        ⟨below_two hW.bel _ _, hW.use.grown (only_trans (only_put' 0 _) (only_put' 1 _)) (by intro e; injection e with e; exact hqr e), (hres.put 0 _).put 1 _⟩
      unfold Oper.wp
      simp [go_sem, q0, q1, f0, f1]
      first | exact hN | exact ⟨undef, hN⟩ | exact ⟨_, rfl, hN⟩
    simp only [Act.put]
    refine ⟨fun kk hlo hhi ff W hW => ?_, ?_⟩
    · unfold Oper.wp
      simp [go_sem]
      try exact ⟨_, rfl, rfl⟩
    exact trivial
  · intro ff W9 vals hff hJ
    have HF : Hid (Has W9 w.heap.size 32 #[.int .i64 ui, .int .i64 ua]) := hJ.res
    have HG := hidden hJ.bel
    simp only [putAll, List.map_cons, List.map_nil, JobX.val, Act.put, List.setIfInBounds_toArray, List.set_cons_succ, List.set_cons_zero]
    clear hJ hff
    go_wp21
    refine bodyPost_ret (results_cell_row1 rfl _ _ w.heap.size 32 #[.int .i64 ui, .int .i64 ua] (0, 0) _ rfl HF.out Try.underlying32 rfl (by kernel_rfl)) rfl ?_
    exact ⟨rfl, HG.out⟩
set_option maxRecDepth 100000 in
set_option maxHeartbeats 4000000 in
theorem findName'_any (w : World) (B : Nat) (a : Option Addr) (c n : Nat) (L : List Oj) (hn : n = L.length) (h : Objs w B a L) (hB : B ≤ w.heap.size) (hlen : n ≤ 9223372036854775807) (hf : ∀ y ∈ L, y.fits) (s : ByteArray) :
    Calls Try.prog 22 #[.slice a n c, .string s] w (FoundA w (findA (L.map Oj.o) s)) := by
  obtain ⟨U, hU⟩ : ∃ q, findA (L.map Oj.o) s = q := ⟨_, rfl⟩
  rw [hU]
  have hb0 : Below w.heap.size w (w.alloc (.cells #[.int .i64 0, .int .i64 0] 32)) := (Below.refl _ _).alloc (Nat.le_refl _) _
  have hR0 : Has (w.alloc (.cells #[.int .i64 0, .int .i64 0] 32)) w.heap.size 32 #[.int .i64 0, .int .i64 0] := Has.new _ _ _
  have hOV := objectsValid'_any (w.alloc (.cells #[.int .i64 0, .int .i64 0] 32)) B a c n L hn (h.below (hb0.mono hB)) (Nat.le_trans hB hb0.size) hlen (fun y hy => (hf y hy).lens)
  obtain ⟨ok, hok⟩ : ∃ q, validA (L.map Oj.o) = q := ⟨_, rfl⟩
  rw [hok] at hOV
  have HNU : Hid (∀ W, Below w.heap.size w W → ok = true → Calls Try.prog 50 #[.slice a n c, .string s] W (GaveA W (giveOf s (itemsA (L.map Oj.o))))) := fun W hW e => by
    obtain ⟨q1, q2⟩ := valid_few (hok.trans e)
    have := l11Given_any W B a c n L hn (h.below (hW.mono hB)) (Nat.le_trans hB hW.size) (by omega) (fun y hy => by have := (q2 y hy).2; omega) s
    rwa [← itemsA_is hn] at this
  have HUE : Hid (U = if ok then useOf s (itemsA (L.map Oj.o)) else Use.zero) := by show _ = _; rw [← hU, ← hok]; rfl
  have HSM : Hid (ok = true → (giveOf s (itemsA (L.map Oj.o))).inn = (useOf s (itemsA (L.map Oj.o))).inn ∧ (giveOf s (itemsA (L.map Oj.o))).at_ = (useOf s (itemsA (L.map Oj.o))).at_ ∧ (giveOf s (itemsA (L.map Oj.o))).given = (useOf s (itemsA (L.map Oj.o))).given) := fun e => by
    obtain ⟨q1, q2, q3, _⟩ := use_same s (itemsA (L.map Oj.o)) (binds_of (hok.trans e))
    exact ⟨q1, q2, q3⟩
  have HOV := hidden hOV
  have HR0 := hidden hR0
  have HB0 := hidden hb0
  clear hU hb0 hR0 hOV hok h hn hf
  go_enter Try.func22, Try.ntmps22
  go_wp2_with fail
  refine HOV.out.mono ?_
  clear HOV
  rintro e w1 ⟨rfl, hb1⟩
  have hB1 := HB0.out.trans (hb1.mono HB0.out.size)
  have hR1 := HR0.out.below hb1 HR0.out.lt
  have r0 : w1.cell? ⟨w.heap.size, 0, none⟩ = some (.int .i64 0) := hR1.cell 0
  have r1 : w1.cell? ⟨w.heap.size, 1, none⟩ = some (.int .i64 0) := hR1.cell 1
  have f0 : w1.frozen? ⟨w.heap.size, 0, none⟩ = false := hR1.free 0
  have f1 : w1.frozen? ⟨w.heap.size, 1, none⟩ = false := hR1.free 1
  rcases ok with _ | _
  · have hUz : U = Use.zero := HUE.out
    subst hUz
    have HF : Hid (Has ((w1.setCell ⟨w.heap.size, 0, none⟩ (.int .i64 0)).setCell ⟨w.heap.size, 1, none⟩ (.int .i64 0)) w.heap.size 32 #[.int .i64 0, .int .i64 0]) := (hR1.put 0 _).put 1 _
    have HG := hidden (below_two hB1 (.int .i64 0) (.int .i64 0))
    clear HUE HNU HSM hb1 hB1 hR1 HB0 HR0
    go_wp21
    refine bodyPost_ret (results_cell_row1 rfl _ _ w.heap.size 32 #[.int .i64 0, .int .i64 0] (0, 0) _ rfl HF.out Try.underlying32 rfl (by kernel_rfl)) rfl ?_
    exact ⟨rfl, HG.out⟩
  have hUe : U = useOf s (itemsA (L.map Oj.o)) := HUE.out
  have HN1 := hidden (HNU.out w1 hB1 rfl)
  have HB1 := hidden hB1
  have HR1 := hidden hR1
  obtain ⟨m1, m2, m3⟩ := HSM.out rfl
  rw [← hUe] at m1 m2 m3
  obtain ⟨V, hV⟩ : ∃ q, giveOf s (itemsA (L.map Oj.o)) = q := ⟨_, rfl⟩
  rw [hV] at HN1 m1 m2 m3
  obtain ⟨vi, va, vg, vs, vw⟩ := V
  simp only at m1 m2 m3
  have HME := hidden (And.intro m1 (And.intro m2 m3))
  clear HUE HNU HSM hb1 hB1 hR1 HB0 HR0 hUe r0 r1 f0 f1 m1 m2 m3 hV
  unfold GaveA at HN1
  go_wp2_with fail
  refine HN1.out.mono ?_
  clear HN1
  rintro e w2 ⟨rfl, hb2⟩
  have hb3 : Below w2.heap.size w2 (w2.alloc (.cells #[.int .i64 vi, .int .i64 va] 32)) := (Below.refl _ _).alloc (Nat.le_refl _) _
  have hU3 : Has (w2.alloc (.cells #[.int .i64 vi, .int .i64 va] 32)) w2.heap.size 32 #[.int .i64 vi, .int .i64 va] := Has.new _ _ _
  obtain ⟨W3, hW3⟩ : ∃ q, w2.alloc (.cells #[.int .i64 vi, .int .i64 va] 32) = q := ⟨_, rfl⟩
  obtain ⟨q3, hq3⟩ : ∃ q, w2.heap.size = q := ⟨_, rfl⟩
  have hR2 := HR1.out.below hb2 HR1.out.lt
  rw [hW3] at hb3 hU3
  rw [hq3] at hU3
  have hR3 := hR2.below hb3 hR2.lt
  have hB3 := (HB1.out.trans (hb2.mono HB1.out.size)).trans (hb3.mono (HB1.out.trans (hb2.mono HB1.out.size)).size)
  have HW3 := hidden hW3
  have HQ3 := hidden hq3
  have HU3 := hidden hU3
  have HR3 := hidden hR3
  have HB3 := hidden hB3
  clear hb2 hb3 hU3 hR2 hW3 hq3 HB1 HR1 hR3 hB3
  go_upto_region 4 with fail
  rw [HW3.out, HQ3.out]
  clear HW3 HQ3
  have r0 : W3.cell? ⟨w.heap.size, 0, none⟩ = some (.int .i64 0) := HR3.out.cell 0
  have r1 : W3.cell? ⟨w.heap.size, 1, none⟩ = some (.int .i64 0) := HR3.out.cell 1
  have f0 : W3.frozen? ⟨w.heap.size, 0, none⟩ = false := HR3.out.free 0
  have f1 : W3.frozen? ⟨w.heap.size, 1, none⟩ = false := HR3.out.free 1
  have u0 : W3.cell? ⟨q3, 0, none⟩ = some (.int .i64 vi) := HU3.out.cell 0
  have u1 : W3.cell? ⟨q3, 1, none⟩ = some (.int .i64 va) := HU3.out.cell 1
  have HF : Hid (Has ((W3.setCell ⟨w.heap.size, 0, none⟩ (.int .i64 vi)).setCell ⟨w.heap.size, 1, none⟩ (.int .i64 va)) w.heap.size 32 #[.int .i64 vi, .int .i64 va]) := (HR3.out.put 0 _).put 1 _
  have HG := hidden (below_two HB3.out (.int .i64 vi) (.int .i64 va))
  clear HU3 HR3 HB3
  go_wp21
  refine bodyPost_ret (results_cell_row1 rfl _ _ w.heap.size 32 #[.int .i64 vi, .int .i64 va] (0, 0) _ rfl HF.out Try.underlying32 rfl (by kernel_rfl)) rfl ?_
  obtain ⟨m1, m2, m3⟩ := HME.out
  subst m1
  subst m2
  subst m3
  exact ⟨rfl, HG.out⟩

end Go.Proofs.Ytjakkiidedmifaa

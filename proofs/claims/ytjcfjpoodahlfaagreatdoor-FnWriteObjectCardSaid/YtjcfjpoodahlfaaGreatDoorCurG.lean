import Derived.Test.YtjcfjpoodahlfaaGreatDoorCurF
namespace Go.Proofs.YtjcfjpoodahlfaaGreatDoor
open Go.RowKit
theorem secL_length (t : List Int) (S : C3) : ∀ j, (secL t S j).length = j
  | 0 => rfl
  | j + 1 => by rw [secL, List.length_append, secL_length t S j]; rfl
theorem symL_length (t : List Int) (c : Cu) : ∀ j, (symL t c j).length = j
  | 0 => rfl
  | j + 1 => by rw [symL, List.length_append, symL_length t c j]; rfl
theorem cursC_wf {r : List Int} (hw : ∀ x ∈ r, (Lit.int .u8 x).wf = true) (h : Hd) : (cursC r h).three.wf ∧ (∀ x ∈ (cursC r h).m.left, (Lit.int .u8 x).wf = true) ∧ (cursC r h).t.length ≤ h.nam.toNat := by
  have w0 : ∀ x ∈ (⟨r, false⟩ : Cu).left, (Lit.int .u8 x).wf = true := hw
  have w1 := past_wf w0 (6 * h.sec).toNat
  have w2 := past_wf w1 (6 * h.sym).toNat
  have w3 := past_wf w2 (5 * h.fix).toNat
  exact ⟨⟨cut_wf w0 _, cut_wf w2 _, past_wf w3 _⟩, cut_wf w1 _, cut_length _ _⟩
theorem rd_nohd {l : List Int} (h : isHd l = false) : rd l = none := by
  unfold rd parse
  rw [h, if_pos (.inl rfl)]
theorem isHd_ok {l : List Int} (h : isHd l = true) : hdOk (getHd l) = true ∧ 10 ≤ l.length := by
  have ht := isHd_told h
  refine ⟨?_, ht.1⟩
  cases hv : hdOk (getHd l) with
  | true => rfl
  | false =>
    have e := congrArg List.length ht.2
    unfold putHd at e
    rw [hv, List.length_take, if_neg (by decide)] at e
    have h10 := ht.1
    simp only [List.length_nil] at e
    omega
theorem rd_bad {l : List Int} {S : C5} (hS : cursC (l.drop 10) (getHd l) = S) {n m : Nat} (hn : (getHd l).sec = n) (hm : (getHd l).sym = m)
    (hb : ((secP S.t S.three n).s.bad || (symP S.t S.m m).bad || (secP S.t S.three n).f.bad || (secP S.t S.three n).b.bad) = true) : rd l = none := by
  cases h : rd l with
  | none => rfl
  | some p =>
    obtain ⟨ss, ms⟩ := p
    obtain ⟨h1, h2⟩ := rd_some h
    obtain ⟨-, e1, e2, -, S', hS', -, -, b1, b2, b3, b4⟩ := curs_w h1 h2
    rw [hS] at hS'
    subst hS'
    have hn' : n = ss.length := by omega
    have hm' : m = ms.length := by omega
    subst hn' hm'
    rw [b1, b2, b3, b4] at hb
    exact absurd hb (by decide)
theorem rd_good {l : List Int} {ss : List Sp} {ms : List Sm} (hl : 10 ≤ l.length) (hw : writeObj ss ms = l) : rd l = some (ss.map Sp.s, ms) := by
  rw [writeObj_wobj] at hw
  rw [rd_iff]
  refine ⟨?_, hw⟩
  cases h : objOk (ss.map Sp.s) ms with
  | true => rfl
  | false =>
    unfold wobj at hw
    rw [h, if_neg (by decide)] at hw
    rw [← hw] at hl
    simp at hl
theorem rd_other {l : List Int} {ss : List Sp} {ms : List Sm} {S : C5} (hS : cursC (l.drop 10) (getHd l) = S) {n m : Nat} (hn : (getHd l).sec = n) (hm : (getHd l).sym = m)
    (h1 : ss.map Sp.s = secL S.t S.three n) (h2 : ms = symL S.t S.m m) (hw : ¬ writeObj ss ms = l) : rd l = none := by
  cases h : rd l with
  | none => rfl
  | some p =>
    obtain ⟨ss', ms'⟩ := p
    obtain ⟨g1, g2⟩ := rd_some h
    obtain ⟨-, e1, e2, -, S', hS', a1, a2, -⟩ := curs_w g1 g2
    rw [hS] at hS'
    subst hS'
    have hn' : n = ss'.length := by omega
    have hm' : m = ms'.length := by omega
    subst hn' hm'
    rw [a1] at h1
    rw [a2] at h2
    subst h2
    exact absurd (by rw [writeObj_wobj, h1]; exact g2) hw
structure JRe (w : World) (r : Nat) (_k : Nat) (_f : Bool) (W : World) (_vals : Nat → Value) : Prop where
  below : Below w.heap.size w W
  has : Has W r 26 #[.slice none 0 0, .slice none 0 0]
structure RdN (l : List Int) (S : C5) (N M : Nat) : Prop where
  curs : cursC (l.drop 10) (getHd l) = S
  sec : (getHd l).sec = N
  sym : (getHd l).sym = M
  n8 : N ≤ 8
  m12 : M ≤ 12
  wf : S.three.wf
  wfm : ∀ x ∈ S.m.left, (Lit.int .u8 x).wf = true
  t400 : S.t.length ≤ 400
  l10 : 10 ≤ l.length
  u8 : ∀ x ∈ l, (Lit.int .u8 x).wf = true
theorem RdN.fitsS {l : List Int} {S : C5} {N M : Nat} (h : RdN l S N M) : ∀ j, ∀ z ∈ secL S.t S.three j, z.fits
  | 0, z, hz => by cases hz
  | j + 1, z, hz => by
    rw [secL] at hz
    rcases List.mem_append.1 hz with h' | h'
    · exact h.fitsS j z h'
    · rw [List.mem_singleton.1 h']
      refine secAt_fits (secP_wf h.wf _ _) ?_
      have := nameOf_size S.t ((secP S.t S.three j).s.num 2) h.t400
      unfold Cu.name maxLen
      omega
theorem RdN.fitsM {l : List Int} {S : C5} {N M : Nat} (h : RdN l S N M) : ∀ j, ∀ z ∈ symL S.t S.m j, z.fits
  | 0, z, hz => by cases hz
  | j + 1, z, hz => by
    rw [symL] at hz
    rcases List.mem_append.1 hz with h' | h'
    · exact h.fitsM j z h'
    · rw [List.mem_singleton.1 h']
      refine symAt_fits (symP_wf h.wfm _ _) ?_
      have := nameOf_size S.t ((symP S.t S.m j).num 2) h.t400
      unfold Cu.name maxLen
      omega
set_option maxRecDepth 100000 in
set_option maxHeartbeats 8000000 in
theorem readObject_any (want : WantWriteObject) (w : World) (he : Errs w) (a : Option Addr) (n cap : Nat) (l : List Int) (hn : n = l.length) (hi : Ints w .u8 w.heap.size a l) (hcap : n ≤ cap) (hmax : cap ≤ 9223372036854775807) :
    Calls Tryz.prog 42 #[.slice a n cap] w (ReadE w l) := by
  obtain ⟨r, hr⟩ : ∃ r, w.heap.size = r := ⟨_, rfl⟩
  obtain ⟨w1, hw1⟩ : ∃ w1, w.alloc (.cells #[.slice none 0 0, .slice none 0 0] 26) = w1 := ⟨_, rfl⟩
  have hb1 : Below w.heap.size w w1 := by rw [← hw1]; exact (Below.refl _ _).alloc (Nat.le_refl _) _
  have hr1 : Has w1 r 26 #[.slice none 0 0, .slice none 0 0] := by rw [← hw1, ← hr]; exact Has.new _ _ _
  have HGH := hidden (getHeader_any w1 w.heap.size a cap n l hn (hi.below hb1) hb1.size (by omega) hcap)
  have HE := hidden he
  have HI := hidden hi
  have HN := hidden hn
  have HR := hidden hr
  have HW1 := hidden hw1
  have HB1 := hidden hb1
  have HR1 := hidden hr1
  clear he hi hn hr hw1 hb1 hr1
  go_enter Tryz.func42, Tryz.ntmps42
  go_wp2_with fail
  rw [HR.out, HW1.out]
  refine HGH.out.mono ?_
  clear HGH
  rintro e w2 ⟨rfl, hb2⟩
  obtain ⟨⟨x0, x1, x2, x3⟩, hx⟩ : ∃ h, getHd l = h := ⟨_, rfl⟩
  rw [hx]
  obtain ⟨ok, hok⟩ : ∃ ok, isHd l = ok := ⟨_, rfl⟩
  rw [hok]
  unfold Hd.agg
  have hB2 : Below w.heap.size w w2 := HB1.out.trans (hb2.mono HB1.out.size)
  have hr2 : Has w2 r 26 #[.slice none 0 0, .slice none 0 0] := HR1.out.below hb2 HR1.out.lt
  have HB2 := hidden hB2
  have HR2 := hidden hr2
  have HX := hidden hx
  clear hb2 hB2 hr2 hx HW1
  rcases ok with _ | _
  · have HNO := hidden (rd_nohd hok)
    clear hok
    go_upto_region 3 with fail
    obtain ⟨w3, hw3⟩ : ∃ w3, w2.alloc (.cells #[.int .i64 x0, .int .i64 x1, .int .i64 x2, .int .i64 x3] 60) = w3 := ⟨_, rfl⟩
    have HJ : Hid (JRe w r 0 false w3.drew fun _ => undef) := by rw [← hw3]; exact ⟨(HB2.out.alloc HB2.out.size _).drew, (HR2.out.alloc _).drew⟩
    rw [hw3]
    clear hw3 HB2 HR2
    obtain ⟨te, ue, hge⟩ := HE.out.header
    refine wp_region_free (m := 1) (js := [.quiet (.agg #[.slice none 0 0, .slice none 0 0]) 0 1, .quiet (.iface te ue) 0 1, .chain 0 false, .quiet (.iface te ue) 0 1]) (by kernel_rfl) (JRe w r) (by kernel_rfl) (by kernel_rfl) ⟨_, HJ.out⟩ (fun vals => ?_) ?_
    · show SeqX _ _ _ _ _ _ _
      refine ⟨fun kk hlo hhi ff W hW => ?_, ?_⟩
      · unfold Oper.wp
        simp [go_sem]
        try exact ⟨_, rfl, rfl⟩
      simp only [Act.put, JobX.val, pA, pB, pC]
      refine ⟨fun kk hlo hhi ff W hW => ?_, ?_⟩
      · have hc : W.cell? ⟨0, 0, none⟩ = some (.iface te ue) := by rw [← hge]; exact hW.below.cell (by show 0 < w.heap.size; exact Nat.lt_of_lt_of_le (by unfold errTop; omega) HE.out.lt)
        unfold Oper.wp
        simp [go_sem, hc]
        try exact ⟨_, rfl, rfl⟩
      simp only [Act.put, JobX.val, pA, pB, pC]
      refine ⟨fun ff W hwt hW => ?_, ?_⟩
      · have h3 := hW.has
        have c := h3.cell
        have f := h3.free
        have hN : JRe w r 1 ff ((W.setCell ⟨r, 0, none⟩ (.slice none 0 0)).setCell ⟨r, 1, none⟩ (.slice none 0 0)) (upd vals 0 (vals 0)) := by
          have h4 := (h3.put 0 (.slice none 0 0)).put 1 (.slice none 0 0)
          exact ⟨(hW.below.setCell (by rw [HR.out]; exact Nat.le_refl _) _).setCell (by rw [HR.out]; exact Nat.le_refl _) _, by simpa using h4⟩
        clear h3
        unfold Oper.wp
        simp [go_sem, c, f]
        exact ⟨_, hN⟩
      simp only [Act.put]
      refine ⟨fun kk hlo hhi ff W hW => ?_, ?_⟩
      · unfold Oper.wp
        simp [go_sem]
        try exact ⟨_, rfl, rfl⟩
      simp only [Act.put, JobX.val, pA, pB, pC]
      exact trivial
    · intro ff W vals _ hJ
      have HF := hidden hJ.has
      have HFB := hidden hJ.below
      simp only [putAll, List.map_cons, List.map_nil, JobX.val, Act.put, pA, pB, pC]
      clear hJ HJ hge
      go_wp2_with fail
      refine bodyPost_ret (results_cell_row3h rfl _ _ r 26 #[.slice none 0 0, .slice none 0 0] (0, 0) _ rfl HF.out Tryz.underlying26 rfl (by kernel_rfl)) rfl ?_
      exact ⟨HFB.out, .inl ⟨HNO.out, _, _, rfl⟩⟩
  obtain ⟨hH, h10⟩ := isHd_ok hok
  rw [HX.out] at hH
  obtain ⟨⟨b0, b1⟩, ⟨b2, b3⟩, ⟨b4, b5⟩, b6, b7⟩ := hdOk_iff.1 hH
  simp only at b0 b1 b2 b3 b4 b5 b6 b7
  obtain ⟨N, rfl⟩ := Int.eq_ofNat_of_zero_le b0
  obtain ⟨M, rfl⟩ := Int.eq_ofNat_of_zero_le b2
  obtain ⟨S, hS⟩ : ∃ S, cursC (l.drop 10) ⟨(N : Int), (M : Int), x2, x3⟩ = S := ⟨_, rfl⟩
  have hw10 : ∀ x ∈ l.drop 10, (Lit.int .u8 x).wf = true := fun x hx => HI.out.1 x (List.mem_of_mem_drop hx)
  have hwf := cursC_wf hw10 ⟨(N : Int), (M : Int), x2, x3⟩
  rw [hS] at hwf
  have HRN : RdN l S N M := ⟨by rw [HX.out]; exact hS, by rw [HX.out], by rw [HX.out], by omega, by omega, hwf.1, hwf.2.1, by have := hwf.2.2; simp only at this; omega, h10, HI.out.1⟩
  have HS := hidden hS
  have hn10 : 10 ≤ n := by rw [HN.out]; exact h10
  obtain ⟨a10, ha10⟩ : ∃ a10, (if cap = 10 then a else a.map (·.add (10 * 1))) = a10 := ⟨_, rfl⟩
  have HS10 : Hid (SlV w w.heap.size (l.drop 10) (.slice a10 (n - 10) (cap - 10))) := ⟨a10, cap - 10, by rw [List.length_drop, HN.out], by rw [← ha10]; exact ints_rest HI.out (by rw [← HN.out]; exact hcap), by rw [List.length_drop, ← HN.out]; omega, by omega⟩
  have ht : Tryz.prog.underlying 22 = some (.slice (Tryz.prog.elem 22)) := by kernel_rfl
  have hsl : ∀ W : World, (Instr.slice 22 (.slice a n cap) (some (.int .i64 10)) none none).run Tryz.prog W = .ok (.slice a10 (n - 10) (cap - 10)) W := fun W => by
    have hz : (sizeOf (Tryz.prog.elem 22)).run Tryz.prog W = .ok 1 W := by kernel_rfl
    rw [run_slice_l W 22 a n cap ht .i64 10 (by omega) (by omega), hz]
    simp only [Result.andThen, sliced]
    rw [← ha10]
    rfl
  have HHD := hidden hH
  have HSP : Hid (SlV w w.heap.size l (.slice a n cap)) := ⟨a, cap, by rw [HN.out], HI.out, by rw [← HN.out]; exact hcap, hmax⟩
  clear hok h10 hH b0 b1 b2 b3 b4 b5 b6 b7 hS hw10 hwf ht ha10 HX hn10
  go_upto_region 4 with fail
  obtain ⟨hb, hhb⟩ : ∃ hb, w2.heap.size = hb := ⟨_, rfl⟩
  obtain ⟨w3, hw3⟩ : ∃ w3, w2.alloc (.cells #[.int .i64 (N : Int), .int .i64 (M : Int), .int .i64 x2, .int .i64 x3] 60) = w3 := ⟨_, rfl⟩
  rw [hw3, hhb]
  have hh3 : Has w3 hb 60 #[.int .i64 (N : Int), .int .i64 (M : Int), .int .i64 x2, .int .i64 x3] := by rw [← hw3, ← hhb]; exact Has.new _ _ _
  have hr3 : Has w3 r 26 #[.slice none 0 0, .slice none 0 0] := by rw [← hw3]; exact HR2.out.alloc _
  have hb3 : Below w.heap.size w w3 := by rw [← hw3]; exact HB2.out.alloc HB2.out.size _
  have HH3 := hidden hh3
  have HR3 := hidden hr3
  have HB3 := hidden hb3
  have HJ : Hid (JR4 w3 w.heap.size S 0 false w3.drew fun _ => undef) := ⟨⟨rfl, rfl, rfl, Nat.le_refl _, fun _ _ => rfl⟩, (fun e => absurd e (by decide)), (fun e => absurd e (by decide)), (fun e => absurd e (by decide))⟩
  clear hw3 hhb hh3 hr3 hb3 HR2 HB2
  refine wp_region_free (m := 2) (js := [.quiet (.slice a n cap) 0 2, .quiet (.slice a10 (n - 10) (cap - 10)) 0 2, .quiet (.agg #[.int .i64 (N : Int), .int .i64 (M : Int), .int .i64 x2, .int .i64 x3]) 0 2, .chain 0 false, .free 2, .chain 1 true]) (by kernel_rfl) (JR4 w3 w.heap.size S) (by kernel_rfl) (by kernel_rfl) ⟨_, HJ.out⟩ (fun vals => ?_) ?_
  · show SeqX _ _ _ _ _ _ _
    refine ⟨fun kk hlo hhi ff W hW => ?_, ?_⟩
    · unfold Oper.wp
      simp [go_sem]
      try exact ⟨_, rfl, rfl⟩
    simp only [Act.put, JobX.val, pA, pB, pC]
    refine ⟨fun kk hlo hhi ff W hW => ?_, ?_⟩
    · unfold Oper.wp
      simp [go_sem, hsl]
      try exact ⟨_, rfl, rfl⟩
    simp only [Act.put, JobX.val, pA, pB, pC]
    refine ⟨fun kk hlo hhi ff W hW => ?_, ?_⟩
    · have hx := (HH3.out.below hW.below HH3.out.lt).cell
      have hx0 : W.cell? ⟨hb, 0, none⟩ = some (.int .i64 (N : Int)) := hx 0
      have hx1 : W.cell? ⟨hb, 1, none⟩ = some (.int .i64 (M : Int)) := hx 1
      have hx2 : W.cell? ⟨hb, 2, none⟩ = some (.int .i64 x2) := hx 2
      have hx3 : W.cell? ⟨hb, 3, none⟩ = some (.int .i64 x3) := hx 3
      clear hx
      unfold Oper.wp
      simp [go_sem, hx0, hx1, hx2, hx3]
      try exact ⟨_, rfl, rfl⟩
    simp only [Act.put, JobX.val, pA, pB, pC]
    refine ⟨fun ff W hwt hW => ?_, ?_⟩
    · have hbW := HB3.out.trans (hW.below.mono HB3.out.size)
      have hcu := cursorsOf_any W w.heap.size hbW.size (HE.out.below hbW HE.out.lt) HE.out.lt a10 (n - 10) (cap - 10) (l.drop 10) (HS10.out.below hbW) (N : Int) (M : Int) x2 x3 HHD.out
      rw [HS.out] at hcu
      unfold Oper.wp
      simp [go_sem]
      refine hcu.mono ?_
      rintro e w' ⟨cs, vt, rfl, hC, hb'⟩
      have hN : JR4 w3 w.heap.size S 1 ff w' (upd vals 0 (.agg cs)) := ⟨hW.below.trans (hb'.mono hW.below.size), (fun e => absurd e (by decide)), fun _ => ⟨cs, vt, by simp [upd], hC⟩, fun hf => by
        obtain ⟨g, h1, h2, h3, -⟩ := hW.obj hf
        exact ⟨g, by simpa [upd] using h1, h2, fun _ => (h3 (by omega)).below hb' (h3 (by omega)).lt, (fun e => absurd e (by decide))⟩⟩
      first | exact hN | exact ⟨_, rfl, hN⟩ | exact ⟨_, hN⟩
    simp only [Act.put, JobX.val, pA, pB, pC]
    refine ⟨fun kk W hW => ?_, ?_⟩
    · have hk2 : kk ≠ 2 := fun e => by have := hW.ord e; cases this
      have hN : JR4 w3 w.heap.size S kk true (W.alloc (.cells #[.slice none 0 0, .nilIface, .slice none 0 0, .nilIface, .slice none 0 0, .nilIface, .slice none 0 0, .nilIface, .slice none 0 0] 104)) (upd vals 2 (.pointer (some ⟨W.heap.size, 0, none⟩))) := ⟨hW.below.alloc hW.below.size _, fun _ => rfl, fun h => by
          obtain ⟨cs, vt, h1, h2⟩ := hW.got h
          exact ⟨cs, vt, by simpa [upd] using h1, h2.below ((Below.refl _ _).alloc (HB3.out.trans (hW.below.mono HB3.out.size)).size _)⟩,
        fun _ => ⟨W.heap.size, by simp [upd], hW.below.size, fun _ => Has.new _ _ _, fun e => absurd e hk2⟩⟩
      unfold Oper.wp
      simp [go_sem]
      first | exact hN | exact ⟨_, rfl, hN⟩ | exact ⟨_, hN⟩
    simp only [Act.put, JobX.val, pA, pB, pC]
    refine ⟨fun ff W hwt hW => ?_, ?_⟩
    · obtain rfl := hwt rfl
      obtain ⟨g, hv2, hg, hz, -⟩ := hW.obj rfl
      have hz := hz (by decide)
      obtain ⟨cs, vt, hv, hC⟩ := hW.got (by decide)
      have hC0 := hC
      rw [← HS.out] at hC0
      obtain ⟨a0, n0, c0, a1, n1, c1, a2, n2, c2, a4, n4, c4, e4, a3, n3, c3, rfl, he4⟩ := cursC_cells hC0
      clear hC0
      rcases he4 with rfl | ⟨te, ue, rfl⟩
      · have hN : ∀ u, JR4 w3 w.heap.size S 2 true (((((((((W.setCell ⟨g, 0, none⟩ (.slice a0 n0 c0)).setCell ⟨g, 1, none⟩ (.nilIface)).setCell ⟨g, 2, none⟩ (.slice a1 n1 c1)).setCell ⟨g, 3, none⟩ (.nilIface)).setCell ⟨g, 4, none⟩ (.slice a2 n2 c2)).setCell ⟨g, 5, none⟩ (.nilIface)).setCell ⟨g, 6, none⟩ (.slice a4 n4 c4)).setCell ⟨g, 7, none⟩ (.nilIface)).setCell ⟨g, 8, none⟩ (.slice a3 n3 c3)) (upd vals 1 u) := fun u => by
          have gp : ∀ (w : World) i v, w.grownBy (w.setCell ⟨g, i, none⟩ v) (some g) := fun w i v => only_put' i v
          have hgr : W.grownBy (((((((((W.setCell ⟨g, 0, none⟩ (.slice a0 n0 c0)).setCell ⟨g, 1, none⟩ (.nilIface)).setCell ⟨g, 2, none⟩ (.slice a1 n1 c1)).setCell ⟨g, 3, none⟩ (.nilIface)).setCell ⟨g, 4, none⟩ (.slice a2 n2 c2)).setCell ⟨g, 5, none⟩ (.nilIface)).setCell ⟨g, 6, none⟩ (.slice a4 n4 c4)).setCell ⟨g, 7, none⟩ (.nilIface)).setCell ⟨g, 8, none⟩ (.slice a3 n3 c3)) (some g) := (grown_trans (grown_trans (grown_trans (grown_trans (grown_trans (grown_trans (grown_trans (grown_trans (gp _ _ _) (gp _ _ _)) (gp _ _ _)) (gp _ _ _)) (gp _ _ _)) (gp _ _ _)) (gp _ _ _)) (gp _ _ _)) (gp _ _ _))
          have hb2 := below_grown hW.below hgr hg
          have hb3' : Below w.heap.size W (((((((((W.setCell ⟨g, 0, none⟩ (.slice a0 n0 c0)).setCell ⟨g, 1, none⟩ (.nilIface)).setCell ⟨g, 2, none⟩ (.slice a1 n1 c1)).setCell ⟨g, 3, none⟩ (.nilIface)).setCell ⟨g, 4, none⟩ (.slice a2 n2 c2)).setCell ⟨g, 5, none⟩ (.nilIface)).setCell ⟨g, 6, none⟩ (.slice a4 n4 c4)).setCell ⟨g, 7, none⟩ (.nilIface)).setCell ⟨g, 8, none⟩ (.slice a3 n3 c3)) := (Below.refl _ _).grown hgr (HB3.out.trans (hW.below.mono HB3.out.size)).size (fun i e => by injection e with e; have := HB3.out.size; omega)
          refine ⟨hb2, fun _ => rfl, fun _ => ⟨_, vt, by simp [upd, hv], hC.below hb3'⟩, fun _ => ⟨g, by simpa [upd] using hv2, hg, (fun e => absurd e (by decide)), fun _ => ⟨_, vt, ?_, hC.below hb3'⟩⟩⟩
          have h9 := (((((((((hz.put 0 (.slice a0 n0 c0)).put 1 (.nilIface)).put 2 (.slice a1 n1 c1)).put 3 (.nilIface)).put 4 (.slice a2 n2 c2)).put 5 (.nilIface)).put 6 (.slice a4 n4 c4)).put 7 (.nilIface)).put 8 (.slice a3 n3 c3))
          simpa using h9
        have c9 := hz.cell
        have f9 := hz.free
        rw [hv, hv2]
        clear hz hC hv hv2 hW
        unfold Oper.wp
        simp [go_sem, c9, f9]
        first | exact hN _ | exact ⟨_, hN _⟩ | exact ⟨undef, hN _⟩
      · have hN : ∀ u, JR4 w3 w.heap.size S 2 true (((((((((W.setCell ⟨g, 0, none⟩ (.slice a0 n0 c0)).setCell ⟨g, 1, none⟩ (.nilIface)).setCell ⟨g, 2, none⟩ (.slice a1 n1 c1)).setCell ⟨g, 3, none⟩ (.nilIface)).setCell ⟨g, 4, none⟩ (.slice a2 n2 c2)).setCell ⟨g, 5, none⟩ (.nilIface)).setCell ⟨g, 6, none⟩ (.slice a4 n4 c4)).setCell ⟨g, 7, none⟩ (.iface te ue)).setCell ⟨g, 8, none⟩ (.slice a3 n3 c3)) (upd vals 1 u) := fun u => by
          have gp : ∀ (w : World) i v, w.grownBy (w.setCell ⟨g, i, none⟩ v) (some g) := fun w i v => only_put' i v
          have hgr : W.grownBy (((((((((W.setCell ⟨g, 0, none⟩ (.slice a0 n0 c0)).setCell ⟨g, 1, none⟩ (.nilIface)).setCell ⟨g, 2, none⟩ (.slice a1 n1 c1)).setCell ⟨g, 3, none⟩ (.nilIface)).setCell ⟨g, 4, none⟩ (.slice a2 n2 c2)).setCell ⟨g, 5, none⟩ (.nilIface)).setCell ⟨g, 6, none⟩ (.slice a4 n4 c4)).setCell ⟨g, 7, none⟩ (.iface te ue)).setCell ⟨g, 8, none⟩ (.slice a3 n3 c3)) (some g) := (grown_trans (grown_trans (grown_trans (grown_trans (grown_trans (grown_trans (grown_trans (grown_trans (gp _ _ _) (gp _ _ _)) (gp _ _ _)) (gp _ _ _)) (gp _ _ _)) (gp _ _ _)) (gp _ _ _)) (gp _ _ _)) (gp _ _ _))
          have hb2 := below_grown hW.below hgr hg
          have hb3' : Below w.heap.size W (((((((((W.setCell ⟨g, 0, none⟩ (.slice a0 n0 c0)).setCell ⟨g, 1, none⟩ (.nilIface)).setCell ⟨g, 2, none⟩ (.slice a1 n1 c1)).setCell ⟨g, 3, none⟩ (.nilIface)).setCell ⟨g, 4, none⟩ (.slice a2 n2 c2)).setCell ⟨g, 5, none⟩ (.nilIface)).setCell ⟨g, 6, none⟩ (.slice a4 n4 c4)).setCell ⟨g, 7, none⟩ (.iface te ue)).setCell ⟨g, 8, none⟩ (.slice a3 n3 c3)) := (Below.refl _ _).grown hgr (HB3.out.trans (hW.below.mono HB3.out.size)).size (fun i e => by injection e with e; have := HB3.out.size; omega)
          refine ⟨hb2, fun _ => rfl, fun _ => ⟨_, vt, by simp [upd, hv], hC.below hb3'⟩, fun _ => ⟨g, by simpa [upd] using hv2, hg, (fun e => absurd e (by decide)), fun _ => ⟨_, vt, ?_, hC.below hb3'⟩⟩⟩
          have h9 := (((((((((hz.put 0 (.slice a0 n0 c0)).put 1 (.nilIface)).put 2 (.slice a1 n1 c1)).put 3 (.nilIface)).put 4 (.slice a2 n2 c2)).put 5 (.nilIface)).put 6 (.slice a4 n4 c4)).put 7 (.iface te ue)).put 8 (.slice a3 n3 c3))
          simpa using h9
        have c9 := hz.cell
        have f9 := hz.free
        rw [hv, hv2]
        clear hz hC hv hv2 hW
        unfold Oper.wp
        simp [go_sem, c9, f9]
        first | exact hN _ | exact ⟨_, hN _⟩ | exact ⟨undef, hN _⟩
    simp only [Act.put]
    exact trivial
  · intro ff W4 vals hfree hJ4
    obtain ⟨g, hv2, hg, -, hgot⟩ := hJ4.obj (hfree rfl)
    obtain ⟨cs, vt, hcs, hC⟩ := hgot rfl
    have hb4 := HB3.out.trans (hJ4.below.mono HB3.out.size)
    have hcu : Curs W4 w.heap.size g vt S := ⟨⟨cs, hcs, hC⟩, Nat.le_trans HB3.out.size hg, HE.out.below hb4 HE.out.lt, HE.out.lt⟩
    have hh4 := HH3.out.below hJ4.below HH3.out.lt
    have hr4 := HR3.out.below hJ4.below HR3.out.lt
    obtain ⟨o, ho⟩ : ∃ o, W4.heap.size = o := ⟨_, rfl⟩
    have hro : r ≠ o := by have := hr4.lt; omega
    have HRD : Hid (RdO w hb r o g #[.int .i64 (N : Int), .int .i64 (M : Int), .int .i64 x2, .int .i64 x3] vt (stAt S 0) (W4.alloc (.cells #[.slice none 0 0, .slice none 0 0] 26)) (.slice none 0 0) (.slice none 0 0) [] []) := ⟨hb4.alloc hb4.size _, hh4.alloc _, hr4.alloc _, hro, by rw [HR.out]; exact Nat.le_refl _, by rw [← ho]; exact hb4.size, hcu.alloc _, by rw [← ho]; exact Has.new _ _ _, SR.nil _ _, World.ownsRow_nil _ _ _ _⟩
    simp only [putAll, List.map_cons, List.map_nil, JobX.val, Act.put, pA, pB, pC]
    rw [hv2]
    clear hcs hC hb4 hcu hh4 hr4 hJ4 hfree HJ HH3 HR3 HB3 hg hv2 HS10 hsl HHD HS
    obtain ⟨i0, hi0, hz0, hz1, hz2⟩ := info_parts Tryz.info_section
    obtain ⟨i1, hi1, hy0, hy1, hy2⟩ := info_parts Tryz.info_symbol
    have h0 : (W4.alloc (.cells #[.slice none 0 0, .slice none 0 0] 26)).cell? ⟨hb, 0, none⟩ = some (.int .i64 (N : Int)) := HRD.out.hdr.cell 0
    go_wp2_with fail
    try rw [ho]
    clear h0 ho hro
    go_loopw [24] (fun i wr => ∃ (j : Nat) (vs : Value) (ss : List Sp), i = .int .i64 j ∧ j ≤ N ∧ Hid (RdO w hb r o g #[.int .i64 (N : Int), .int .i64 (M : Int), .int .i64 x2, .int .i64 x3] vt (stAt S j) wr vs (.slice none 0 0) ss []) ∧ Hid (ss.map Sp.s = secL S.t S.three j)) (fun i _ => N - (intOf i).toNat)
    case atStart => exact ⟨0, _, [], rfl, Nat.zero_le _, HRD, rfl⟩
    case round =>
      clear HRD
      obtain ⟨j, vs, ss, rfl, hj, hrd, hss⟩ := hrel
      have hn8 := HRN.n8
      by_cases hlt : j < N
      · have hi : (j : Int) < (N : Int) := by omega
        obtain ⟨z, hz⟩ : ∃ z, secAt S.t (secP S.t S.three j) = z := ⟨_, rfl⟩
        have HSS : Hid (ss.map Sp.s ++ [z] = secL S.t S.three (j + 1)) := by show _ = _; rw [hss.out, secL, hz]
        have hsl : ss.length = j := by have := congrArg List.length hss.out; rwa [List.length_map, secL_length] at this
        have HL8 := hidden (show ss.length ≤ 8 by omega)
        have HZ := hidden hz
        have HWF : Hid ((stAt S j).three.wf) := secP_wf HRN.wf S.t j
        obtain ⟨sa, sc, rfl⟩ := own_slice hrd.out.secs.row
        have HJ : Hid (JR8 w hb r o g #[.int .i64 (N : Int), .int .i64 (M : Int), .int .i64 x2, .int .i64 x3] vt (stAt S j) (stAt S (j + 1)) (.slice sa ss.length sc) (.slice none 0 0) ss [] z 0 false wr.drew fun _ => undef) := hrd.out.drew
        clear hz hss hsl hrd
        go_upto_region 8 with fail
        refine wp_region_free (m := 4) (js := [.quiet (.pointer (some ⟨o, 0, none⟩)) 0 4, .quiet (.slice sa ss.length sc) 0 2, .chain 0 false, .chain 1 false, .chain 2 false, .quiet (.pointer (some ⟨o, 0, none⟩)) 0 4, .chain 3 false]) (by kernel_rfl) (JR8 w hb r o g #[.int .i64 (N : Int), .int .i64 (M : Int), .int .i64 x2, .int .i64 x3] vt (stAt S j) (stAt S (j + 1)) (.slice sa ss.length sc) (.slice none 0 0) ss [] z) (by kernel_rfl) (by kernel_rfl) ⟨_, HJ.out⟩ (fun vals => ?_) ?_
        · show SeqX _ _ _ _ _ _ _
          refine ⟨fun kk hlo hhi ff W hW => ?_, ?_⟩
          · unfold Oper.wp
            simp [go_sem]
            try exact ⟨_, rfl, rfl⟩
          simp only [Act.put, JobX.val, pA, pB, pC]
          refine ⟨fun kk hlo hhi ff W hW => ?_, ?_⟩
          · have q5 : W.cell? ⟨o, 0, none⟩ = some (.slice sa ss.length sc) := (JR8.obj hW (by omega)).cell 0
            unfold Oper.wp
            simp [go_sem, q5]
            try exact ⟨_, rfl, rfl⟩
          simp only [Act.put, JobX.val, pA, pB, pC]
          refine ⟨fun ff W hwt hW => ?_, ?_⟩
          · unfold Oper.wp
            simp [go_sem]
            have hW0 : RdO w hb r o g #[.int .i64 (N : Int), .int .i64 (M : Int), .int .i64 x2, .int .i64 x3] vt (stAt S j) W (.slice sa ss.length sc) (.slice none 0 0) ss [] := hW
            refine (section_any W w.heap.size g vt (stAt S j) hW0.curs HWF.out).mono ?_
            rintro e w' ⟨y, hR⟩
            obtain ⟨his, rfl, ho1, ho2, hcu, hgr⟩ := hR
            rw [stAt_next] at hcu
            have his' : y.s = z := by rw [his, stAt_t, stAt_three]; exact HZ.out
            have hN : JR8 w hb r o g #[.int .i64 (N : Int), .int .i64 (M : Int), .int .i64 x2, .int .i64 x3] vt (stAt S j) (stAt S (j + 1)) (.slice sa ss.length sc) (.slice none 0 0) ss [] z 1 ff w' (upd vals 0 (aggS y)) := ⟨hW0.call hcu hgr, y, ⟨his', hW0.secs.later (Nat.le_refl _) (y := y) ho1 ho2, row_lower ho1 hW0.below.size, row_lower ho2 hW0.below.size⟩, by simp [upd]⟩
            first | exact hN | exact ⟨_, rfl, hN⟩ | exact ⟨_, hN⟩
          simp only [Act.put, JobX.val, pA, pB, pC]
          refine ⟨fun ff W hwt hW => ?_, ?_⟩
          · obtain ⟨hW1, y, hY, hv⟩ := hW
            have hv : vals 0 = .agg #[.string y.s.name, .int .i64 y.s.kind, .int .i64 y.s.align, .slice y.a1 y.s.bytes.length y.c1, .int .i64 y.s.size, .slice y.a2 y.s.fixs.length y.c2] := hv
            have hN : JR8 w hb r o g #[.int .i64 (N : Int), .int .i64 (M : Int), .int .i64 x2, .int .i64 x3] vt (stAt S j) (stAt S (j + 1)) (.slice sa ss.length sc) (.slice none 0 0) ss [] z 2 ff (W.alloc (.cells #[.string y.s.name, .int .i64 y.s.kind, .int .i64 y.s.align, .slice y.a1 y.s.bytes.length y.c1, .int .i64 y.s.size, .slice y.a2 y.s.fixs.length y.c2] 48)) (upd vals 1 (.slice (some ⟨W.heap.size, 0, none⟩) 1 1)) := ⟨hW1.alloc _, y, ⟨hY.is, hY.apart, World.ownsRow.alloc hY.own1 _, World.ownsRow.alloc hY.own2 _⟩, W.heap.size, by simp [upd], Has.new _ _ _⟩
            rw [hv]
            clear hY hW1
            unfold Oper.wp
            simp [go_sem]
            first | exact hN | exact ⟨_, rfl, hN⟩
          simp only [Act.put, JobX.val, pA, pB, pC]
          refine ⟨fun ff W hwt hW => ?_, ?_⟩
          · obtain ⟨hW2, y, hY, b, hv, hh⟩ := hW
            refine wp_append_own W _ _ _ rfl w.heap.size 48 i0 (.agg #[.string ⟨#[]⟩, .int .i64 0, .int .i64 0, .slice none 0 0, .int .i64 0, .slice none 0 0]) 6 88 Tryz.underlying23 hi0 hz0 hz1 hz2 rfl (by decide) _ _ _ rfl hW2.secs.row ⟨b, 0, none⟩ 1 1 [.string y.s.name, .int .i64 y.s.kind, .int .i64 y.s.align, .slice y.a1 y.s.bytes.length y.c1, .int .i64 y.s.size, .slice y.a2 y.s.fixs.length y.c2] hv ?_ ?_ ?_ ?_ ?_ ?_ ?_
            · rfl
            · intro t u ht
              rw [addr_row, hh.cell t]
              simpa using ht
            · intro u hu
              simp at hu
              rcases hu with rfl | rfl | rfl | rfl | rfl | rfl <;> rfl
            · have := HL8.out; unfold maxLen; omega
            · have := HL8.out; omega
            · exact hW2.below.size
            · intro v' w' h2 h3 _
              obtain ⟨b3, d3, rfl⟩ := own_slice h2
              have hbw : ∀ x ∈ y.s.bytes, (Lit.int .u8 x).wf = true := by rw [hY.is, ← HZ.out]; exact bytes_wf (secP_wf HRN.wf S.t j) S.t
              obtain ⟨q1, q2⟩ := hW2.sec (y := y) hY.apart hbw hY.own1 hY.own2 h3 h2
              exact ⟨_, rfl, (⟨y, b3, d3, hY.is, by simp [upd], q1, q2⟩ : JR8 w hb r o g #[.int .i64 (N : Int), .int .i64 (M : Int), .int .i64 x2, .int .i64 x3] vt (stAt S j) (stAt S (j + 1)) (.slice sa ss.length sc) (.slice none 0 0) ss [] z 3 ff w' (upd vals 2 (.slice b3 (ss.length + 1) d3)))⟩
          simp only [Act.put, JobX.val, pA, pB, pC]
          refine ⟨fun kk hlo hhi ff W hW => ?_, ?_⟩
          · unfold Oper.wp
            simp [go_sem]
            try exact ⟨_, rfl, rfl⟩
          simp only [Act.put, JobX.val, pA, pB, pC]
          refine ⟨fun ff W hwt hW => ?_, ?_⟩
          · obtain ⟨y, b3, d3, his, hv, q1, q2⟩ := hW
            have ck : W.cell? ⟨o, 0, none⟩ = some (.slice sa ss.length sc) := q1.cell 0
            have fk := q1.free 0
            have hN : ∀ u, JR8 w hb r o g #[.int .i64 (N : Int), .int .i64 (M : Int), .int .i64 x2, .int .i64 x3] vt (stAt S j) (stAt S (j + 1)) (.slice sa ss.length sc) (.slice none 0 0) ss [] z 4 ff (W.setCell ⟨o, 0, none⟩ (.slice b3 (ss.length + 1) d3)) (upd vals 3 u) := fun u => ⟨y, _, his, q2⟩
            rw [hv]
            clear q1 q2 hv
            unfold Oper.wp
            simp [go_sem, ck, fk]
            first | exact hN _ | exact ⟨undef, hN _⟩ | exact ⟨_, rfl, hN _⟩
          simp only [Act.put]
          exact trivial
        · intro ff W vals _ hJ8
          obtain ⟨y, v, his, hs⟩ := hJ8
          have HF : Hid (RdO w hb r o g #[.int .i64 (N : Int), .int .i64 (M : Int), .int .i64 x2, .int .i64 x3] vt (stAt S (j + 1)) W v (.slice none 0 0) (ss ++ [y]) []) := hs
          have HFS : Hid ((ss ++ [y]).map Sp.s = secL S.t S.three (j + 1)) := by
            show _ = _
            rw [List.map_append, ← HSS.out, List.map_cons, List.map_nil, his]
          have hc0 : W.cell? ⟨hb, 0, none⟩ = some (.int .i64 (N : Int)) := hs.hdr.cell 0
          simp only [putAll, List.map_cons, List.map_nil, JobX.val, Act.put, pA, pB, pC]
          clear hs HJ HSS HZ HWF his HL8
          go_wp2_with fail
          go_roundw
          case rel => exact ⟨j + 1, v, ss ++ [y], by go_num, by omega, HF, HFS⟩
          case measure => simp [intOf]; omega
      · have hjN : j = N := by omega
        have hi : ¬ (j : Int) < (N : Int) := by omega
        subst hjN
        clear hlt hj
        have h1 : wr.cell? ⟨hb, 1, none⟩ = some (.int .i64 (M : Int)) := hrd.out.hdr.cell 1
        have HRD : Hid (RdO w hb r o g #[.int .i64 (j : Int), .int .i64 (M : Int), .int .i64 x2, .int .i64 x3] vt (smAt (stAt S j) 0) wr vs (.slice none 0 0) ss (symL S.t S.m 0)) := hrd.out
        clear hrd
        go_wp2_with fail
        clear h1 hi
        go_loopw [35] (fun i wr => ∃ (q : Nat) (vm : Value), i = .int .i64 q ∧ q ≤ M ∧ Hid (RdO w hb r o g #[.int .i64 (j : Int), .int .i64 (M : Int), .int .i64 x2, .int .i64 x3] vt (smAt (stAt S j) q) wr vs vm ss (symL S.t S.m q))) (fun i _ => M - (intOf i).toNat)
        case atStart => exact ⟨0, _, rfl, Nat.zero_le _, HRD⟩
        case round =>
          clear HRD
          obtain ⟨q, vm, rfl, hq, hrd⟩ := hrel
          have hm12 := HRN.m12
          by_cases hlt : q < M
          · have hi : (q : Int) < (M : Int) := by omega
            obtain ⟨x, hx⟩ : ∃ x, symAt S.t (symP S.t S.m q) = x := ⟨_, rfl⟩
            obtain ⟨ms, hms⟩ : ∃ ms, symL S.t S.m q = ms := ⟨_, rfl⟩
            have HMS : Hid (symL S.t S.m (q + 1) = ms ++ [x]) := by show _ = _; rw [symL, hms, hx]
            have HL12 := hidden (show ms.length ≤ 12 by rw [← hms, symL_length]; omega)
            have HX := hidden hx
            have HWM : Hid (∀ x ∈ (smAt (stAt S j) q).m.left, (Lit.int .u8 x).wf = true) := symP_wf HRN.wfm S.t q
            rw [hms] at hrd
            obtain ⟨ma, mc, rfl⟩ := own_slice hrd.out.syms
            have HJ : Hid (JR12 w hb r o g #[.int .i64 (j : Int), .int .i64 (M : Int), .int .i64 x2, .int .i64 x3] vt (smAt (stAt S j) q) (smAt (stAt S j) (q + 1)) vs (.slice ma ms.length mc) ss ms x 0 false wr.drew fun _ => undef) := hrd.out.drew
            clear hx hms hrd
            go_upto_region 12 with fail
            refine wp_region_free (m := 4) (js := [.quiet (.pointer (some ⟨o, 1, none⟩)) 0 4, .quiet (.slice ma ms.length mc) 0 2, .chain 0 false, .chain 1 false, .chain 2 false, .quiet (.pointer (some ⟨o, 1, none⟩)) 0 4, .chain 3 false]) (by kernel_rfl) (JR12 w hb r o g #[.int .i64 (j : Int), .int .i64 (M : Int), .int .i64 x2, .int .i64 x3] vt (smAt (stAt S j) q) (smAt (stAt S j) (q + 1)) vs (.slice ma ms.length mc) ss ms x) (by kernel_rfl) (by kernel_rfl) ⟨_, HJ.out⟩ (fun vals => ?_) ?_
            · show SeqX _ _ _ _ _ _ _
              refine ⟨fun kk hlo hhi ff W hW => ?_, ?_⟩
              · unfold Oper.wp
                simp [go_sem]
                try exact ⟨_, rfl, rfl⟩
              simp only [Act.put, JobX.val, pA, pB, pC]
              refine ⟨fun kk hlo hhi ff W hW => ?_, ?_⟩
              · have q5 : W.cell? ⟨o, 1, none⟩ = some (.slice ma ms.length mc) := (JR12.obj hW (by omega)).cell 1
                unfold Oper.wp
                simp [go_sem, q5]
                try exact ⟨_, rfl, rfl⟩
              simp only [Act.put, JobX.val, pA, pB, pC]
              refine ⟨fun ff W hwt hW => ?_, ?_⟩
              · unfold Oper.wp
                simp [go_sem]
                have hW0 : RdO w hb r o g #[.int .i64 (j : Int), .int .i64 (M : Int), .int .i64 x2, .int .i64 x3] vt (smAt (stAt S j) q) W vs (.slice ma ms.length mc) ss ms := hW
                refine (symbol_any W w.heap.size g vt (smAt (stAt S j) q) hW0.curs HWM.out).mono ?_
                rintro e w' ⟨rfl, hcu, hgr⟩
                have hx : symAt (smAt (stAt S j) q).t (smAt (stAt S j) q).m = x := HX.out
                rw [smAt_next] at hcu
                rw [hx]
                have hN : JR12 w hb r o g #[.int .i64 (j : Int), .int .i64 (M : Int), .int .i64 x2, .int .i64 x3] vt (smAt (stAt S j) q) (smAt (stAt S j) (q + 1)) vs (.slice ma ms.length mc) ss ms x 1 ff w' (upd vals 0 (.agg #[.string x.name, .int .i64 x.bind, .int .i64 x.loc, .int .i64 x.value])) := ⟨hW0.call hcu hgr, by simp [upd]⟩
                first | exact hN | exact ⟨_, rfl, hN⟩ | exact ⟨_, hN⟩
              simp only [Act.put, JobX.val, pA, pB, pC]
              refine ⟨fun ff W hwt hW => ?_, ?_⟩
              · obtain ⟨hW1, hv⟩ := hW
                have hN : JR12 w hb r o g #[.int .i64 (j : Int), .int .i64 (M : Int), .int .i64 x2, .int .i64 x3] vt (smAt (stAt S j) q) (smAt (stAt S j) (q + 1)) vs (.slice ma ms.length mc) ss ms x 2 ff (W.alloc (.cells #[.string x.name, .int .i64 x.bind, .int .i64 x.loc, .int .i64 x.value] 51)) (upd vals 1 (.slice (some ⟨W.heap.size, 0, none⟩) 1 1)) := ⟨hW1.alloc _, W.heap.size, by simp [upd], Has.new _ _ _⟩
                rw [hv]
                clear hW1
                unfold Oper.wp
                simp [go_sem]
                first | exact hN | exact ⟨_, rfl, hN⟩
              simp only [Act.put, JobX.val, pA, pB, pC]
              refine ⟨fun ff W hwt hW => ?_, ?_⟩
              · obtain ⟨hW2, b, hv, hh⟩ := hW
                refine wp_append_own W _ _ _ rfl w.heap.size 51 i1 (.agg #[.string ⟨#[]⟩, .int .i64 0, .int .i64 0, .int .i64 0]) 4 40 Tryz.underlying24 hi1 hy0 hy1 hy2 rfl (by decide) _ _ _ rfl hW2.syms ⟨b, 0, none⟩ 1 1 [.string x.name, .int .i64 x.bind, .int .i64 x.loc, .int .i64 x.value] hv ?_ ?_ ?_ ?_ ?_ ?_ ?_
                · rfl
                · intro t u ht
                  rw [addr_row, hh.cell t]
                  simpa using ht
                · intro u hu
                  simp at hu
                  rcases hu with rfl | rfl | rfl | rfl <;> rfl
                · have := HL12.out; unfold maxLen; omega
                · have := HL12.out; omega
                · exact hW2.below.size
                · intro v' w' h2 h3 _
                  obtain ⟨b3, d3, rfl⟩ := own_slice h2
                  obtain ⟨q1, q2⟩ := hW2.sym (m := x) h3 h2
                  exact ⟨_, rfl, (⟨b3, d3, by simp [upd], q1, q2⟩ : JR12 w hb r o g #[.int .i64 (j : Int), .int .i64 (M : Int), .int .i64 x2, .int .i64 x3] vt (smAt (stAt S j) q) (smAt (stAt S j) (q + 1)) vs (.slice ma ms.length mc) ss ms x 3 ff w' (upd vals 2 (.slice b3 (ms.length + 1) d3)))⟩
              simp only [Act.put, JobX.val, pA, pB, pC]
              refine ⟨fun kk hlo hhi ff W hW => ?_, ?_⟩
              · unfold Oper.wp
                simp [go_sem]
                try exact ⟨_, rfl, rfl⟩
              simp only [Act.put, JobX.val, pA, pB, pC]
              refine ⟨fun ff W hwt hW => ?_, ?_⟩
              · obtain ⟨b3, d3, hv, q1, q2⟩ := hW
                have ck : W.cell? ⟨o, 1, none⟩ = some (.slice ma ms.length mc) := q1.cell 1
                have fk := q1.free 1
                have hN : ∀ u, JR12 w hb r o g #[.int .i64 (j : Int), .int .i64 (M : Int), .int .i64 x2, .int .i64 x3] vt (smAt (stAt S j) q) (smAt (stAt S j) (q + 1)) vs (.slice ma ms.length mc) ss ms x 4 ff (W.setCell ⟨o, 1, none⟩ (.slice b3 (ms.length + 1) d3)) (upd vals 3 u) := fun u => ⟨_, q2⟩
                rw [hv]
                clear q1 q2 hv
                unfold Oper.wp
                simp [go_sem, ck, fk]
                first | exact hN _ | exact ⟨undef, hN _⟩ | exact ⟨_, rfl, hN _⟩
              simp only [Act.put]
              exact trivial
            · intro ff W vals _ hJ12
              obtain ⟨v, hs⟩ := hJ12
              have HF : Hid (RdO w hb r o g #[.int .i64 (j : Int), .int .i64 (M : Int), .int .i64 x2, .int .i64 x3] vt (smAt (stAt S j) (q + 1)) W vs v ss (symL S.t S.m (q + 1))) := by
                show RdO _ _ _ _ _ _ _ _ _ _ _ _ _
                rw [HMS.out]
                exact hs
              simp only [putAll, List.map_cons, List.map_nil, JobX.val, Act.put, pA, pB, pC]
              clear hs HJ HMS HX HWM HL12
              go_wp2_with fail
              go_roundw
              case rel => exact ⟨q + 1, v, by go_num, by omega, HF⟩
              case measure => simp [intOf]; omega
          · have hqM : q = M := by omega
            have hi : ¬ (q : Int) < (M : Int) := by omega
            subst hqM
            clear hlt hq
            obtain ⟨cs, hh, -, k0, k2, k4, k6, -, -⟩ := hrd.out.curs.cells
            obtain ⟨E0, he0, hv0⟩ := k0.err
            obtain ⟨E1, he1, hv1⟩ := k2.err
            obtain ⟨E2, he2, hv2⟩ := k4.err
            obtain ⟨E3, he3, hv3⟩ := k6.err
            have q1 : wr.cell? ⟨g, 1, none⟩ = some E0 := (hh.cell 1).trans he0
            have q3 : wr.cell? ⟨g, 3, none⟩ = some E1 := (hh.cell 3).trans he1
            have q5 : wr.cell? ⟨g, 5, none⟩ = some E2 := (hh.cell 5).trans he2
            have q7 : wr.cell? ⟨g, 7, none⟩ = some E3 := (hh.cell 7).trans he3
            have hes : ∀ v ∈ [E0, E1, E2, E3], v = .nilIface ∨ ∃ t u, v = .iface t u := fun v hv => by
              simp only [List.mem_cons, List.not_mem_nil, or_false] at hv
              rcases hv with rfl | rfl | rfl | rfl
              · exact errV_cases hv0
              · exact errV_cases hv1
              · exact errV_cases hv2
              · exact errV_cases hv3
            obtain ⟨bb, hbb⟩ : ∃ b, ((secP S.t S.three j).s.bad || (symP S.t S.m q).bad || (secP S.t S.three j).f.bad || (secP S.t S.three j).b.bad) = b := ⟨_, rfl⟩
            have hany : [E0, E1, E2, E3].any isErr = bb := by
              rw [← hbb]
              simp only [List.any_cons, List.any_nil, isErr_of hv0, isErr_of hv1, isErr_of hv2, isErr_of hv3, Bool.or_false, Bool.or_assoc]
              rfl
            have HJN := hidden (join_any (wr.alloc (.cells #[E0, E1, E2, E3] 70)) wr.heap.size 70 [E0, E1, E2, E3] hes 4 rfl (by decide) (Has.new _ _ _) 4)
            rw [hany] at HJN
            have HBB := hidden hbb
            have v0 := errV_cases hv0
            have v1 := errV_cases hv1
            have v2 := errV_cases hv2
            have v3 := errV_cases hv3
            clear hany hes hv0 hv1 hv2 hv3 k0 k2 k4 k6 he0 he1 he2 he3 hh hbb
            go_upto_region 14 with fail
            go_cut [8] from 44 (fun v wx => ErrV bb v ∧ Hid (RdO w hb r o g #[.int .i64 (j : Int), .int .i64 (q : Int), .int .i64 x2, .int .i64 x3] vt (smAt (stAt S j) q) wx vs vm ss (symL S.t S.m q)))
            case first =>
              rcases v0 with rfl | ⟨t0, u0, rfl⟩ <;> rcases v1 with rfl | ⟨t1, u1, rfl⟩ <;> rcases v2 with rfl | ⟨t2, u2, rfl⟩ <;> rcases v3 with rfl | ⟨t3, u3, rfl⟩
              all_goals
                go_wp2_with fail
                refine HJN.out.mono ?_
                clear HJN
                rintro e w5 ⟨v, rfl, hv, hb5⟩
                have HRD5 := hidden ((hrd.out.alloc _).made (grown_only hb5))
                have HV := hidden hv
                clear hb5 hrd hv q1 q3 q5 q7
                go_wp2_with fail
                go_meet
                exact ⟨HV.out, HRD5⟩
            case rest =>
              obtain ⟨hv, HRD5⟩ := hcut
              clear HJN q1 q3 q5 q7 v0 v1 v2 v3 hrd hi
              have hrd5 := HRD5.out
              rcases bb with _ | _
              · obtain rfl := nil_of_err hv
                clear hv
                obtain ⟨a1, c1, rfl⟩ := own_slice hrd5.secs.row
                obtain ⟨a2, c2, rfl⟩ := own_slice hrd5.syms
                obtain ⟨ms, hms⟩ : ∃ ms, symL S.t S.m q = ms := ⟨_, rfl⟩
                rw [hms] at hrd5 HRD5
                have HWO := hidden (want wc wc.heap.size a1 a2 c1 c2 ss ms hrd5.secs.sects (syms_of_own hrd5.syms) (Nat.le_refl _) (by have := congrArg List.length hss.out; rw [List.length_map, secL_length] at this; have := HRN.n8; omega) (by rw [← hms, symL_length]; have := HRN.m12; omega) (fun y hy => HRN.fitsS j y.s (by rw [← hss.out]; exact List.mem_map_of_mem hy)) (fun x hx => HRN.fitsM q x (by rw [hms]; exact hx)))
                have HMS := hidden hms
                have p0 : wc.cell? ⟨o, 0, none⟩ = some (.slice a1 ss.length c1) := hrd5.obj.cell 0
                have p1 : wc.cell? ⟨o, 1, none⟩ = some (.slice a2 ms.length c2) := hrd5.obj.cell 1
                clear hrd5 hms
                obtain ⟨n1, hn1⟩ : ∃ n1, ss.length = n1 := ⟨_, rfl⟩
                obtain ⟨n2, hn2⟩ : ∃ n2, ms.length = n2 := ⟨_, rfl⟩
                rw [hn1] at p0 HWO
                rw [hn2] at p1 HWO
                have HN1 := hidden hn1
                have HN2 := hidden hn2
                clear hn1 hn2
                go_wp2_with fail
                refine HWO.out.mono ?_
                clear HWO p0 p1
                rintro e w6 hrow
                obtain ⟨ad, cc, -, rfl, hle, hmx, hints, -, -, hb6⟩ := hrow.parts (writeObj_u8 ss ms HRD5.out.secs.wf)
                have hrd6 := HRD5.out.made (grown_only hb6)
                have HRD6 := hidden hrd6
                have HEQ := hidden (equal_any w6 w6.heap.size w.heap.size (writeObj ss ms) l (.slice ad (writeObj ss ms).length cc) (.slice a n cap) ⟨ad, cc, rfl, hints, hle, by unfold maxLen at hmx; omega⟩ (HSP.out.below hrd6.below))
                obtain ⟨LL, hLL⟩ : ∃ LL, (writeObj ss ms).length = LL := ⟨_, rfl⟩
                rw [hLL] at HEQ ⊢
                obtain ⟨eq, heq⟩ : ∃ eq, decide (writeObj ss ms = l) = eq := ⟨_, rfl⟩
                rw [heq] at HEQ
                have p0 : w6.cell? ⟨o, 0, none⟩ = some (.slice a1 ss.length c1) := hrd6.obj.cell 0
                have p1 : w6.cell? ⟨o, 1, none⟩ = some (.slice a2 ms.length c2) := hrd6.obj.cell 1
                rw [HN1.out] at p0
                rw [HN2.out] at p1
                have hr6 := hrd6.res
                have c0 : w6.cell? ⟨r, 0, none⟩ = some (.slice none 0 0) := hr6.cell 0
                have c1' : w6.cell? ⟨r, 1, none⟩ = some (.slice none 0 0) := hr6.cell 1
                have f0 := hr6.free 0
                have f1 := hr6.free 1
                clear hrow hb6 hints hle hmx hrd6 HRD5 hLL hr6
                have HQ := hidden heq
                clear heq
                go_wp2_with fail
                refine HEQ.out.mono ?_
                clear HEQ
                rintro e _ ⟨rfl, rfl⟩
                rcases eq with _ | _
                · have HNO := hidden (rd_other HRN.curs HRN.sec HRN.sym hss.out HMS.out.symm (of_decide_eq_false HQ.out))
                  have HJ : Hid (JRe w r 0 false w6.drew fun _ => undef) := ⟨HRD6.out.below.drew, HRD6.out.res.drew⟩
                  clear p0 p1 c0 c1' f0 f1 HRD6 HMS HQ
                  go_upto_region 18 with fail
                  obtain ⟨te, ue, hge⟩ := HE.out.other
                  refine wp_region_free (m := 1) (js := [.quiet (.agg #[.slice none 0 0, .slice none 0 0]) 0 1, .quiet (.iface te ue) 0 1, .chain 0 false, .quiet (.iface te ue) 0 1]) (by kernel_rfl) (JRe w r) (by kernel_rfl) (by kernel_rfl) ⟨_, HJ.out⟩ (fun vals => ?_) ?_
                  · show SeqX _ _ _ _ _ _ _
                    refine ⟨fun kk hlo hhi ff W hW => ?_, ?_⟩
                    · unfold Oper.wp
                      simp [go_sem]
                      try exact ⟨_, rfl, rfl⟩
                    simp only [Act.put, JobX.val, pA, pB, pC]
                    refine ⟨fun kk hlo hhi ff W hW => ?_, ?_⟩
                    · have hc : W.cell? ⟨1, 0, none⟩ = some (.iface te ue) := by rw [← hge]; exact hW.below.cell (by show 1 < w.heap.size; exact Nat.lt_of_lt_of_le (by unfold errTop; omega) HE.out.lt)
                      unfold Oper.wp
                      simp [go_sem, hc]
                      try exact ⟨_, rfl, rfl⟩
                    simp only [Act.put, JobX.val, pA, pB, pC]
                    refine ⟨fun ff W hwt hW => ?_, ?_⟩
                    · have h3 := hW.has
                      have c := h3.cell
                      have f := h3.free
                      have hN : JRe w r 1 ff ((W.setCell ⟨r, 0, none⟩ (.slice none 0 0)).setCell ⟨r, 1, none⟩ (.slice none 0 0)) (upd vals 0 (vals 0)) := by
                        have h4 := (h3.put 0 (.slice none 0 0)).put 1 (.slice none 0 0)
                        exact ⟨(hW.below.setCell (by rw [HR.out]; exact Nat.le_refl _) _).setCell (by rw [HR.out]; exact Nat.le_refl _) _, by simpa using h4⟩
                      clear h3
                      unfold Oper.wp
                      simp [go_sem, c, f]
                      exact ⟨_, hN⟩
                    simp only [Act.put]
                    refine ⟨fun kk hlo hhi ff W hW => ?_, ?_⟩
                    · unfold Oper.wp
                      simp [go_sem]
                      try exact ⟨_, rfl, rfl⟩
                    simp only [Act.put, JobX.val, pA, pB, pC]
                    exact trivial
                  · intro ff W vals _ hJ
                    have HF := hidden hJ.has
                    have HFB := hidden hJ.below
                    simp only [putAll, List.map_cons, List.map_nil, JobX.val, Act.put, pA, pB, pC]
                    clear hJ HJ hge
                    go_wp2_with fail
                    refine bodyPost_ret (results_cell_row3h rfl _ _ r 26 #[.slice none 0 0, .slice none 0 0] (0, 0) _ rfl HF.out Tryz.underlying26 rfl (by kernel_rfl)) rfl ?_
                    exact ⟨HFB.out, .inl ⟨HNO.out, _, _, rfl⟩⟩
                · have HYES := hidden (rd_good HRN.l10 (of_decide_eq_true HQ.out))
                  have gp : ∀ (w : World) i v, w.grownBy (w.setCell ⟨r, i, none⟩ v) (some r) := fun w i v => only_put' i v
                  have hgr : w6.grownBy ((w6.setCell ⟨r, 0, none⟩ (.slice a1 n1 c1)).setCell ⟨r, 1, none⟩ (.slice a2 n2 c2)) (some r) := grown_trans (gp _ _ _) (gp _ _ _)
                  have hr6 := HRD6.out.res
                  have HF : Hid (Has ((w6.setCell ⟨r, 0, none⟩ (.slice a1 n1 c1)).setCell ⟨r, 1, none⟩ (.slice a2 n2 c2)) r 26 #[.slice a1 n1 c1, .slice a2 n2 c2]) := by
                    have h2 := (hr6.put 0 (.slice a1 n1 c1)).put 1 (.slice a2 n2 c2)
                    show Has _ _ _ _
                    simpa using h2
                  have HA : Hid (ReadE w l (.returned (.tuple #[.agg #[.slice a1 n1 c1, .slice a2 n2 c2], .nilIface])) ((w6.setCell ⟨r, 0, none⟩ (.slice a1 n1 c1)).setCell ⟨r, 1, none⟩ (.slice a2 n2 c2))) := by
                    refine ⟨HRD6.out.below.grown hgr HRD6.out.below.size (fun i e => by injection e with e; have := HRD6.out.lor; omega), .inr ⟨ss, ms, a1, a2, c1, c2, HYES.out, by rw [HN1.out, HN2.out], ?_, ?_⟩⟩
                    · exact HRD6.out.secs.other hr6 (by decide) (by decide) (by decide) hgr
                    · exact HRD6.out.syms.kept hgr (row_apart HRD6.out.syms hr6 (by decide))
                  clear gp hgr hr6 HRD6 HMS HQ HYES HN1 HN2
                  go_wp2_with fail
                  refine bodyPost_ret (results_cell_row3h rfl _ _ r 26 #[.slice a1 n1 c1, .slice a2 n2 c2] (0, 0) _ rfl HF.out Tryz.underlying26 rfl (by kernel_rfl)) rfl ?_
                  exact HA.out
              · unfold ErrV at hv
                rw [if_pos rfl] at hv
                obtain ⟨te, ue, rfl⟩ := hv
                have HNO := hidden (rd_bad HRN.curs HRN.sec HRN.sym HBB.out)
                have hr6 := hrd5.res
                have c0 : wc.cell? ⟨r, 0, none⟩ = some (.slice none 0 0) := hr6.cell 0
                have c1' : wc.cell? ⟨r, 1, none⟩ = some (.slice none 0 0) := hr6.cell 1
                have f0 := hr6.free 0
                have f1 := hr6.free 1
                have HF : Hid (Has ((wc.setCell ⟨r, 0, none⟩ (.slice none 0 0)).setCell ⟨r, 1, none⟩ (.slice none 0 0)) r 26 #[.slice none 0 0, .slice none 0 0]) := by
                  have h2 := (hr6.put 0 (.slice none 0 0)).put 1 (.slice none 0 0)
                  show Has _ _ _ _
                  simpa using h2
                have HFB : Hid (Below w.heap.size w ((wc.setCell ⟨r, 0, none⟩ (.slice none 0 0)).setCell ⟨r, 1, none⟩ (.slice none 0 0))) := (hrd5.below.setCell (by rw [HR.out]; exact Nat.le_refl _) _).setCell (by rw [HR.out]; exact Nat.le_refl _) _
                clear hrd5 HRD5 hr6
                go_wp2_with fail
                refine bodyPost_ret (results_cell_row3h rfl _ _ r 26 #[.slice none 0 0, .slice none 0 0] (0, 0) _ rfl HF.out Tryz.underlying26 rfl (by kernel_rfl)) rfl ?_
                exact ⟨HFB.out, .inl ⟨HNO.out, _, _, rfl⟩⟩
open Go.RowKit
structure JRo (w W3 : World) (r p : Nat) (cs : Array Value) (k : Nat) (_f : Bool) (W : World) (_vals : Nat → Value) : Prop where
  below : Below w.heap.size w W
  src : Has W p 26 cs
  res : Has W r 26 (if k = 1 then cs else #[.slice none 0 0, .slice none 0 0])
  grown : W3.grownBy W (some r)
theorem slices_of {w : World} {l : List Int} {e : Ending} {W : World} (h : ReadE w l e W) : ∃ (a1 a2 : Option Addr) (n1 n2 c1 c2 : Nat) (E : Value) (ok : Bool), e = .returned (.tuple #[.agg #[.slice a1 n1 c1, .slice a2 n2 c2], E]) ∧ (E = .nilIface ∨ ∃ t u, E = .iface t u) ∧
    ok = !(isErr E) ∧ ∀ (W' : World) (r : Nat) (cs : Array Value), Has W r 26 cs → ∀ w0 : World, Below w0.heap.size w0 W' → w0.heap.size ≤ w.heap.size → W.grownBy W' (some r) → ReadS w0 l (.returned (.tuple #[.agg #[.slice a1 n1 c1, .slice a2 n2 c2], .bool ok])) W' := by
  obtain ⟨hb, ⟨hr, t, u, rfl⟩ | ⟨ss, ms, a1, a2, c1, c2, hr, rfl, hs, hm⟩⟩ := h
  · exact ⟨none, none, 0, 0, 0, 0, .iface t u, false, rfl, .inr ⟨t, u, rfl⟩, rfl, fun W' r cs _ w0 h1 _ _ => ⟨h1, .inl ⟨hr, rfl⟩⟩⟩
  · exact ⟨a1, a2, _, _, c1, c2, .nilIface, true, rfl, .inl rfl, rfl, fun W' r cs hh w0 h1 h2 hg => ⟨h1, .inr ⟨ss, ms, a1, a2, c1, c2, hr, rfl, (hs.other hh (by decide) (by decide) (by decide) hg).lower h2, row_lower (hm.kept hg (row_apart hm hh (by decide))) h2⟩⟩⟩
set_option maxRecDepth 100000 in
set_option maxHeartbeats 4000000 in
theorem wantReadObject (want : WantWriteObject) : WantReadObject := fun w B a cap l he hi hB hlen hcap hmax => by
  obtain ⟨n, hn⟩ : ∃ n, n = l.length := ⟨_, rfl⟩
  obtain ⟨r, hr⟩ : ∃ r, w.heap.size = r := ⟨_, rfl⟩
  obtain ⟨w1, hw1⟩ : ∃ w1, w.alloc (.cells #[.slice none 0 0, .slice none 0 0] 26) = w1 := ⟨_, rfl⟩
  have hb1 : Below w.heap.size w w1 := by rw [← hw1]; exact (Below.refl _ _).alloc (Nat.le_refl _) _
  have hr1 : Has w1 r 26 #[.slice none 0 0, .slice none 0 0] := by rw [← hw1, ← hr]; exact Has.new _ _ _
  have HRO := hidden (readObject_any want w1 (he.below hb1 he.lt) a n cap l hn ((hi.below (hb1.mono hB)).more (Nat.le_trans hB hb1.size)) (by rw [hn]; exact hcap) hmax)
  rw [← hn]
  have HR := hidden hr
  have HW1 := hidden hw1
  have HB1 := hidden hb1
  have HR1 := hidden hr1
  clear he hi hn hr hw1 hb1 hr1 hB hlen hcap hmax
  go_enter Tryz.func12, Tryz.ntmps12
  go_wp2_with fail
  rw [HR.out, HW1.out]
  refine HRO.out.mono ?_
  clear HRO HW1
  rintro e w2 h2
  have hb2 := h2.1
  obtain ⟨a1, a2, n1, n2, c1, c2, E, ok, rfl, hE, hok, hS⟩ := slices_of h2
  have hr2 : Has w2 r 26 #[.slice none 0 0, .slice none 0 0] := HR1.out.below hb2 HR1.out.lt
  have hB2 : Below w.heap.size w w2 := HB1.out.trans (hb2.mono HB1.out.size)
  have HS := hidden hS
  have HR2 := hidden hr2
  have HB2 := hidden hB2
  clear h2 hb2 hS hr2 hB2 HR1
  have hcmp : isErr E = false ∧ E = .nilIface ∨ isErr E = true ∧ ∃ t u, E = .iface t u := by
    rcases hE with rfl | ⟨t, u, rfl⟩
    · exact .inl ⟨rfl, rfl⟩
    · exact .inr ⟨rfl, t, u, rfl⟩
  clear hE
  rcases hcmp with ⟨he, hE⟩ | ⟨he, t, u, hE⟩
  · have hok2 : ok = true := by rw [hok, he]; rfl
    subst hE
    subst hok2
    clear he hok
    go_upto_region 2 with fail
    obtain ⟨p, hp⟩ : ∃ p, w2.heap.size = p := ⟨_, rfl⟩
    obtain ⟨w3, hw3⟩ : ∃ w3, w2.alloc (.cells #[.slice a1 n1 c1, .slice a2 n2 c2] 26) = w3 := ⟨_, rfl⟩
    have hpr : p ≠ r := by have := HR2.out.lt; omega
    have h23 : w2.grownBy w3 (some r) := by rw [← hw3]; exact ⟨rfl, rfl, rfl, by simp, fun i hi _ => Below.heap_alloc w2 _ i hi⟩
    have HJ : Hid (JRo w w2 r p #[.slice a1 n1 c1, .slice a2 n2 c2] 0 false w3.drew fun _ => undef) := by
      rw [← hw3]
      exact ⟨(HB2.out.alloc HB2.out.size _).drew, by rw [← hp]; exact (Has.new _ _ _).drew, (HR2.out.alloc _).drew, by rw [hw3]; exact grown_drew h23⟩
    rw [hp, hw3]
    clear hp hw3 h23
    refine wp_region_free (m := 1) (js := [.quiet (.agg #[.slice a1 n1 c1, .slice a2 n2 c2]) 0 1, .quiet (.nilIface) 0 1, .quiet (.bool true) 0 1, .chain 0 false, .quiet (.bool true) 0 1]) (by kernel_rfl) (JRo w w2 r p #[.slice a1 n1 c1, .slice a2 n2 c2]) (by kernel_rfl) (by kernel_rfl) ⟨_, HJ.out⟩ (fun vals => ?_) ?_
    · show SeqX _ _ _ _ _ _ _
      refine ⟨fun kk hlo hhi ff W hW => ?_, ?_⟩
      · have c := hW.src.cell
        have c0 : W.cell? ⟨p, 0, none⟩ = some (.slice a1 n1 c1) := c 0
        have c1' : W.cell? ⟨p, 1, none⟩ = some (.slice a2 n2 c2) := c 1
        clear c
        unfold Oper.wp
        simp [go_sem, c0, c1']
        try exact ⟨_, rfl, rfl⟩
      simp only [Act.put, JobX.val, pA, pB, pC]
      iterate 2
        refine ⟨fun kk hlo hhi ff W hW => ?_, ?_⟩
        · unfold Oper.wp
          simp [go_sem]
          try exact ⟨_, rfl, rfl⟩
        simp only [Act.put, JobX.val, pA, pB, pC]
      refine ⟨fun ff W hwt hW => ?_, ?_⟩
      · have h3 : Has W r 26 #[.slice none 0 0, .slice none 0 0] := by simpa using hW.res
        have c := h3.cell
        have f := h3.free
        have hN : JRo w w2 r p #[.slice a1 n1 c1, .slice a2 n2 c2] 1 ff ((W.setCell ⟨r, 0, none⟩ (.slice a1 n1 c1)).setCell ⟨r, 1, none⟩ (.slice a2 n2 c2)) (upd vals 0 (vals 0)) := by
          have h4 := (h3.put 0 (.slice a1 n1 c1)).put 1 (.slice a2 n2 c2)
          have gp : ∀ (w : World) i v, w.grownBy (w.setCell ⟨r, i, none⟩ v) (some r) := fun w i v => only_put' i v
          have hgr : W.grownBy ((W.setCell ⟨r, 0, none⟩ (.slice a1 n1 c1)).setCell ⟨r, 1, none⟩ (.slice a2 n2 c2)) (some r) := grown_trans (gp _ _ _) (gp _ _ _)
          exact ⟨(hW.below.setCell (by rw [HR.out]; exact Nat.le_refl _) _).setCell (by rw [HR.out]; exact Nat.le_refl _) _, hW.src.grown hgr (by intro e; injection e with e; exact hpr e), by rw [if_pos rfl]; simpa using h4, grown_trans hW.grown hgr⟩
        clear h3
        unfold Oper.wp
        simp [go_sem, c, f]
        exact ⟨_, hN⟩
      simp only [Act.put]
      refine ⟨fun kk hlo hhi ff W hW => ?_, ?_⟩
      · unfold Oper.wp
        simp [go_sem]
        try exact ⟨_, rfl, rfl⟩
      simp only [Act.put, JobX.val, pA, pB, pC]
      exact trivial
    · intro ff W vals _ hJ
      have hres := hJ.res
      rw [if_pos rfl] at hres
      have HF := hidden hres
      have HA : Hid (ReadS w l (.returned (.tuple #[.agg #[.slice a1 n1 c1, .slice a2 n2 c2], .bool true])) W) := HS.out W r _ HR2.out w hJ.below HB1.out.size hJ.grown
      simp only [putAll, List.map_cons, List.map_nil, JobX.val, Act.put, pA, pB, pC]
      clear hJ HJ hres
      go_wp2_with fail
      refine bodyPost_ret (results_cell_row3h rfl _ _ r 26 #[.slice a1 n1 c1, .slice a2 n2 c2] (0, 0) _ rfl HF.out Tryz.underlying26 rfl (by kernel_rfl)) rfl ?_
      exact HA.out
  · have hok2 : ok = false := by rw [hok, he]; rfl
    subst hE
    subst hok2
    clear he hok
    go_upto_region 2 with fail
    obtain ⟨p, hp⟩ : ∃ p, w2.heap.size = p := ⟨_, rfl⟩
    obtain ⟨w3, hw3⟩ : ∃ w3, w2.alloc (.cells #[.slice a1 n1 c1, .slice a2 n2 c2] 26) = w3 := ⟨_, rfl⟩
    have hpr : p ≠ r := by have := HR2.out.lt; omega
    have h23 : w2.grownBy w3 (some r) := by rw [← hw3]; exact ⟨rfl, rfl, rfl, by simp, fun i hi _ => Below.heap_alloc w2 _ i hi⟩
    have HJ : Hid (JRo w w2 r p #[.slice a1 n1 c1, .slice a2 n2 c2] 0 false w3.drew fun _ => undef) := by
      rw [← hw3]
      exact ⟨(HB2.out.alloc HB2.out.size _).drew, by rw [← hp]; exact (Has.new _ _ _).drew, (HR2.out.alloc _).drew, by rw [hw3]; exact grown_drew h23⟩
    rw [hp, hw3]
    clear hp hw3 h23
    refine wp_region_free (m := 1) (js := [.quiet (.agg #[.slice a1 n1 c1, .slice a2 n2 c2]) 0 1, .quiet (.iface t u) 0 1, .quiet (.bool false) 0 1, .chain 0 false, .quiet (.bool false) 0 1]) (by kernel_rfl) (JRo w w2 r p #[.slice a1 n1 c1, .slice a2 n2 c2]) (by kernel_rfl) (by kernel_rfl) ⟨_, HJ.out⟩ (fun vals => ?_) ?_
    · show SeqX _ _ _ _ _ _ _
      refine ⟨fun kk hlo hhi ff W hW => ?_, ?_⟩
      · have c := hW.src.cell
        have c0 : W.cell? ⟨p, 0, none⟩ = some (.slice a1 n1 c1) := c 0
        have c1' : W.cell? ⟨p, 1, none⟩ = some (.slice a2 n2 c2) := c 1
        clear c
        unfold Oper.wp
        simp [go_sem, c0, c1']
        try exact ⟨_, rfl, rfl⟩
      simp only [Act.put, JobX.val, pA, pB, pC]
      iterate 2
        refine ⟨fun kk hlo hhi ff W hW => ?_, ?_⟩
        · unfold Oper.wp
          simp [go_sem]
          try exact ⟨_, rfl, rfl⟩
        simp only [Act.put, JobX.val, pA, pB, pC]
      refine ⟨fun ff W hwt hW => ?_, ?_⟩
      · have h3 : Has W r 26 #[.slice none 0 0, .slice none 0 0] := by simpa using hW.res
        have c := h3.cell
        have f := h3.free
        have hN : JRo w w2 r p #[.slice a1 n1 c1, .slice a2 n2 c2] 1 ff ((W.setCell ⟨r, 0, none⟩ (.slice a1 n1 c1)).setCell ⟨r, 1, none⟩ (.slice a2 n2 c2)) (upd vals 0 (vals 0)) := by
          have h4 := (h3.put 0 (.slice a1 n1 c1)).put 1 (.slice a2 n2 c2)
          have gp : ∀ (w : World) i v, w.grownBy (w.setCell ⟨r, i, none⟩ v) (some r) := fun w i v => only_put' i v
          have hgr : W.grownBy ((W.setCell ⟨r, 0, none⟩ (.slice a1 n1 c1)).setCell ⟨r, 1, none⟩ (.slice a2 n2 c2)) (some r) := grown_trans (gp _ _ _) (gp _ _ _)
          exact ⟨(hW.below.setCell (by rw [HR.out]; exact Nat.le_refl _) _).setCell (by rw [HR.out]; exact Nat.le_refl _) _, hW.src.grown hgr (by intro e; injection e with e; exact hpr e), by rw [if_pos rfl]; simpa using h4, grown_trans hW.grown hgr⟩
        clear h3
        unfold Oper.wp
        simp [go_sem, c, f]
        exact ⟨_, hN⟩
      simp only [Act.put]
      refine ⟨fun kk hlo hhi ff W hW => ?_, ?_⟩
      · unfold Oper.wp
        simp [go_sem]
        try exact ⟨_, rfl, rfl⟩
      simp only [Act.put, JobX.val, pA, pB, pC]
      exact trivial
    · intro ff W vals _ hJ
      have hres := hJ.res
      rw [if_pos rfl] at hres
      have HF := hidden hres
      have HA : Hid (ReadS w l (.returned (.tuple #[.agg #[.slice a1 n1 c1, .slice a2 n2 c2], .bool false])) W) := HS.out W r _ HR2.out w hJ.below HB1.out.size hJ.grown
      simp only [putAll, List.map_cons, List.map_nil, JobX.val, Act.put, pA, pB, pC]
      clear hJ HJ hres
      go_wp2_with fail
      refine bodyPost_ret (results_cell_row3h rfl _ _ r 26 #[.slice a1 n1 c1, .slice a2 n2 c2] (0, 0) _ rfl HF.out Tryz.underlying26 rfl (by kernel_rfl)) rfl ?_
      exact HA.out

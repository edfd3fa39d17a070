/-
  spec.l1OwnSection, spec.l1OwnSectionList and spec.l1OwnObject: copies that share nothing.
-/
import Derived.Test.YtiocchmlmcoieaaCopS
namespace Go.Proofs.Ytiocchmlmcoieaa
open Go.RowKit

/-- A section whose lists lie in rows of their own. -/
def OwnSec (w : World) (s : Sx) (e : Ending) (w' : World) : Prop :=
  ∃ (b1 b2 : Option Addr) (d1 d2 : Nat), e = .returned (s.agg b1 d1 b2 d2) ∧ w'.ownsRow w.heap.size 5 1 (.slice b1 s.bytes.length d1) s.bytes.length (s.bytes.map (Value.int .u8)) ∧
    w'.ownsRow w.heap.size 119 4 (.slice b2 s.fixs.length d2) s.fixs.length (flatF s.fixs) ∧ Below w.heap.size w w'
/-- What stands while a section is copied: the argument, the place of the answer, the copy. -/
structure CpX (w W : World) (xs ys : Array Value) (g : Nat) : Prop where
  below : Below w.heap.size w W
  arg : Has W w.heap.size 42 xs
  res : Has W (w.heap.size + 1) 42 #[.string ⟨#[]⟩, .int .i64 0, .int .i64 0, .slice none 0 0, .int .i64 0, .slice none 0 0]
  sec : Has W g 42 ys
  far : w.heap.size + 1 < g
theorem CpX.only {w W W' : World} {xs ys : Array Value} {g : Nat} (h : CpX w W xs ys g) (hb : Below W.heap.size W W') : CpX w W' xs ys g :=
  ⟨h.below.trans (hb.mono h.below.size), h.arg.below hb h.arg.lt, h.res.below hb h.res.lt, h.sec.below hb h.sec.lt, h.far⟩
theorem CpX.put {w W : World} {xs ys : Array Value} {g : Nat} (h : CpX w W xs ys g) (i : Nat) (u : Value) : CpX w (W.setCell ⟨g, i, none⟩ u) xs (ys.setIfInBounds i u) g :=
  ⟨h.below.grown (only_put' i u) h.below.size (by intro q hq; injection hq with hq; have := h.far; omega), h.arg.away (by have := h.far; show w.heap.size ≠ g; omega) _, h.res.away (by have := h.far; show w.heap.size + 1 ≠ g; omega) _, h.sec.put i u, h.far⟩
set_option maxRecDepth 100000 in
set_option maxHeartbeats 4000000 in
theorem l1OwnSection_any (w : World) (B : Nat) (s : Sx) (ya1 ya2 : Option Addr) (yc1 yc2 : Nat) (hby : Ints w .u8 B ya1 s.bytes) (hfx : Fixs w B ya2 s.fixs) (hB : B ≤ w.heap.size) (hs : s.short) :
    Calls Try.prog 85 #[s.agg ya1 yc1 ya2 yc2] w (OwnSec w s) := by
  obtain ⟨-, hsb, hsf⟩ := hs
  obtain ⟨nm, kd, al, bs, sz, fs⟩ := s
  unfold Sx.agg OwnSec Sx.agg
  dsimp only at hby hfx hsb hsf ⊢
  obtain ⟨nb, hnb⟩ : ∃ q, bs.length = q := ⟨_, rfl⟩
  obtain ⟨nf, hnf⟩ : ∃ q, fs.length = q := ⟨_, rfl⟩
  rw [hnb] at hsb ⊢
  rw [hnf] at hsf ⊢
  have HNB := hidden hnb.symm
  have HNF := hidden hnf.symm
  have HBY := hidden (hby.more hB)
  have HFX := hidden (hfx.more hB)
  have hA : Has ((w.alloc (.cells #[.string nm, .int .i64 kd, .int .i64 al, .slice ya1 nb yc1, .int .i64 sz, .slice ya2 nf yc2] 42)).alloc (.cells #[.string ⟨#[]⟩, .int .i64 0, .int .i64 0, .slice none 0 0, .int .i64 0, .slice none 0 0] 42)) w.heap.size 42 #[.string nm, .int .i64 kd, .int .i64 al, .slice ya1 nb yc1, .int .i64 sz, .slice ya2 nf yc2] := (Has.new _ _ _).alloc _
  have hBa : Below w.heap.size w ((w.alloc (.cells #[.string nm, .int .i64 kd, .int .i64 al, .slice ya1 nb yc1, .int .i64 sz, .slice ya2 nf yc2] 42)).alloc (.cells #[.string ⟨#[]⟩, .int .i64 0, .int .i64 0, .slice none 0 0, .int .i64 0, .slice none 0 0] 42)) := ((Below.refl _ _).alloc (Nat.le_refl _) _).alloc (by simp) _
  have hR : Has ((w.alloc (.cells #[.string nm, .int .i64 kd, .int .i64 al, .slice ya1 nb yc1, .int .i64 sz, .slice ya2 nf yc2] 42)).alloc (.cells #[.string ⟨#[]⟩, .int .i64 0, .int .i64 0, .slice none 0 0, .int .i64 0, .slice none 0 0] 42)) (w.heap.size + 1) 42 #[.string ⟨#[]⟩, .int .i64 0, .int .i64 0, .slice none 0 0, .int .i64 0, .slice none 0 0] := by
    have := Has.new (w.alloc (.cells #[.string nm, .int .i64 kd, .int .i64 al, .slice ya1 nb yc1, .int .i64 sz, .slice ya2 nf yc2] 42)) 42 #[.string ⟨#[]⟩, .int .i64 0, .int .i64 0, .slice none 0 0, .int .i64 0, .slice none 0 0]
    simpa using this
  obtain ⟨W2, hW2⟩ : ∃ q, ((w.alloc (.cells #[.string nm, .int .i64 kd, .int .i64 al, .slice ya1 nb yc1, .int .i64 sz, .slice ya2 nf yc2] 42)).alloc (.cells #[.string ⟨#[]⟩, .int .i64 0, .int .i64 0, .slice none 0 0, .int .i64 0, .slice none 0 0] 42)) = q := ⟨_, rfl⟩
  rw [hW2] at hA hBa hR
  have hC3 : CpX w (W2.alloc (.cells #[.string nm, .int .i64 kd, .int .i64 al, .slice ya1 nb yc1, .int .i64 sz, .slice ya2 nf yc2] 42)) #[.string nm, .int .i64 kd, .int .i64 al, .slice ya1 nb yc1, .int .i64 sz, .slice ya2 nf yc2] #[.string nm, .int .i64 kd, .int .i64 al, .slice ya1 nb yc1, .int .i64 sz, .slice ya2 nf yc2] W2.heap.size := ⟨hBa.alloc hBa.size _, hA.alloc _, hR.alloc _, Has.new _ _ _, hR.lt⟩
  have x0 : W2.cell? ⟨w.heap.size, 0, none⟩ = some (.string nm) := hA.cell 0
  have x1 : W2.cell? ⟨w.heap.size, 1, none⟩ = some (.int .i64 kd) := hA.cell 1
  have x2 : W2.cell? ⟨w.heap.size, 2, none⟩ = some (.int .i64 al) := hA.cell 2
  have x3 : W2.cell? ⟨w.heap.size, 3, none⟩ = some (.slice ya1 nb yc1) := hA.cell 3
  have x4 : W2.cell? ⟨w.heap.size, 4, none⟩ = some (.int .i64 sz) := hA.cell 4
  have x5 : W2.cell? ⟨w.heap.size, 5, none⟩ = some (.slice ya2 nf yc2) := hA.cell 5
  obtain ⟨g, hg⟩ : ∃ q, W2.heap.size = q := ⟨_, rfl⟩
  obtain ⟨W3, hW3⟩ : ∃ q, W2.alloc (.cells #[.string nm, .int .i64 kd, .int .i64 al, .slice ya1 nb yc1, .int .i64 sz, .slice ya2 nf yc2] 42) = q := ⟨_, rfl⟩
  rw [hW3, hg] at hC3
  have HW2 := hidden hW2
  have HW3 := hidden hW3
  have HG := hidden hg
  have HOB := hidden (empty_row W3 w.heap.size 5 1 hC3.below.size)
  have y3 : (W3.alloc (.cells #[] 5)).cell? ⟨w.heap.size, 3, none⟩ = some (.slice ya1 nb yc1) := (hC3.arg.alloc _).cell 3
  have HST : Hid (w.heap.size ≤ (W3.alloc (.cells #[] 5)).heap.size) := Nat.le_trans hC3.below.size (by simp)
  have HBY3 := hidden ((HBY.out.below hC3.below).alloc hC3.below.size (.cells #[] 5))
  have HC3 := hidden hC3
  clear hby hfx hB hA hBa hR hW2 hW3 hg hC3 hnb hnf HBY
  go_enter Try.func85, Try.ntmps85
  go_upto_region 1 with fail
  rw [HW2.out]
  clear HW2
  go_upto_region 2 with fail
  rw [HW3.out, HG.out]
  clear HW3 x0 x1 x2 x3 x4 x5 HG
  go_wp2_with (at_builtin; refine wpList_copy_ints _ rfl _ _ rfl w.heap.size _ rfl HOB.out ya1 nb yc1 _ bs HNB.out rfl HBY3.out (by omega) HST.out ?_)
  intro b6 d6 W6 hrow6 hg6
  have hB6 : Below W3.heap.size W3 W6 := ((Below.refl W3.heap.size W3).alloc (Nat.le_refl _) _).grown hg6 (by simp) (by intro q hq; simp [Value.ownBlock] at hq; omega)
  have hC6 := HC3.out.only hB6
  have z3 : W6.cell? ⟨g, 3, none⟩ = some (.slice ya1 nb yc1) := hC6.sec.cell 3
  have f3 : W6.frozen? ⟨g, 3, none⟩ = false := hC6.sec.free 3
  have hC7 : CpX w (W6.setCell ⟨g, 3, none⟩ (.slice b6 nb d6)) #[.string nm, .int .i64 kd, .int .i64 al, .slice ya1 nb yc1, .int .i64 sz, .slice ya2 nf yc2] #[.string nm, .int .i64 kd, .int .i64 al, .slice b6 nb d6, .int .i64 sz, .slice ya2 nf yc2] g := hC6.put 3 _
  have hrow7 := World.ownsRow.kept hrow6 (only_put' (g := g) 3 (.slice b6 nb d6)) (row_apart hrow6 hC6.sec (by decide))
  obtain ⟨W7, hW7⟩ : ∃ q, W6.setCell ⟨g, 3, none⟩ (.slice b6 nb d6) = q := ⟨_, rfl⟩
  rw [hW7] at hC7 hrow7
  have HOB7 := hidden (empty_row W7 w.heap.size 119 4 hC7.below.size)
  have y5 : (W7.alloc (.cells #[] 119)).cell? ⟨w.heap.size, 5, none⟩ = some (.slice ya2 nf yc2) := (hC7.arg.alloc _).cell 5
  have HST7 : Hid (w.heap.size ≤ (W7.alloc (.cells #[] 119)).heap.size) := Nat.le_trans hC7.below.size (by simp)
  have HFX7 := hidden ((HFX.out.below hC7.below).alloc hC7.below.size (.cells #[] 119))
  have HC7 := hidden hC7
  have HW7 := hidden hW7
  have HROW7 := hidden hrow7
  clear hrow6 hg6 hB6 hC6 hC7 hrow7 hW7 HOB y3 HST HBY3 HC3 HFX
  go_upto_region 3 with fail
  rw [HW7.out]
  clear z3 f3 HW7
  go_wp2_with (at_builtin; refine wpList_copy_fixs _ rfl _ _ rfl w.heap.size _ rfl HOB7.out ya2 nf yc2 _ fs HNF.out rfl HFX7.out (by omega) HST7.out ?_)
  intro b8 d8 W8 hrow8 hg8
  have hB8 : Below W7.heap.size W7 W8 := ((Below.refl W7.heap.size W7).alloc (Nat.le_refl _) _).grown hg8 (by simp) (by intro q hq; simp [Value.ownBlock] at hq; omega)
  have hC8 := HC7.out.only hB8
  have z5 : W8.cell? ⟨g, 5, none⟩ = some (.slice ya2 nf yc2) := hC8.sec.cell 5
  have f5 : W8.frozen? ⟨g, 5, none⟩ = false := hC8.sec.free 5
  have hC9 : CpX w (W8.setCell ⟨g, 5, none⟩ (.slice b8 nf d8)) #[.string nm, .int .i64 kd, .int .i64 al, .slice ya1 nb yc1, .int .i64 sz, .slice ya2 nf yc2] #[.string nm, .int .i64 kd, .int .i64 al, .slice b6 nb d6, .int .i64 sz, .slice b8 nf d8] g := hC8.put 5 _
  have hrow9 := World.ownsRow.kept hrow8 (only_put' (g := g) 5 (.slice b8 nf d8)) (row_apart hrow8 hC8.sec (by decide))
  have hr8 := World.ownsRow.kept HROW7.out (grown_only hB8) (Classical.em _)
  have hr9 := World.ownsRow.kept hr8 (only_put' (g := g) 5 (.slice b8 nf d8)) (row_apart hr8 hC8.sec (by decide))
  obtain ⟨W9, hW9⟩ : ∃ q, W8.setCell ⟨g, 5, none⟩ (.slice b8 nf d8) = q := ⟨_, rfl⟩
  rw [hW9] at hC9 hrow9 hr9
  have s0 : W9.cell? ⟨g, 0, none⟩ = some (.string nm) := hC9.sec.cell 0
  have s1 : W9.cell? ⟨g, 1, none⟩ = some (.int .i64 kd) := hC9.sec.cell 1
  have s2 : W9.cell? ⟨g, 2, none⟩ = some (.int .i64 al) := hC9.sec.cell 2
  have s3 : W9.cell? ⟨g, 3, none⟩ = some (.slice b6 nb d6) := hC9.sec.cell 3
  have s4 : W9.cell? ⟨g, 4, none⟩ = some (.int .i64 sz) := hC9.sec.cell 4
  have s5 : W9.cell? ⟨g, 5, none⟩ = some (.slice b8 nf d8) := hC9.sec.cell 5
  have t0 : W9.cell? ⟨w.heap.size + 1, 0, none⟩ = some (.string ⟨#[]⟩) := hC9.res.cell 0
  have t1 : W9.cell? ⟨w.heap.size + 1, 1, none⟩ = some (.int .i64 0) := hC9.res.cell 1
  have t2 : W9.cell? ⟨w.heap.size + 1, 2, none⟩ = some (.int .i64 0) := hC9.res.cell 2
  have t3 : W9.cell? ⟨w.heap.size + 1, 3, none⟩ = some (.slice none 0 0) := hC9.res.cell 3
  have t4 : W9.cell? ⟨w.heap.size + 1, 4, none⟩ = some (.int .i64 0) := hC9.res.cell 4
  have t5 : W9.cell? ⟨w.heap.size + 1, 5, none⟩ = some (.slice none 0 0) := hC9.res.cell 5
  have u0 := hC9.res.free 0
  have u1 := hC9.res.free 1
  have u2 := hC9.res.free 2
  have u3 := hC9.res.free 3
  have u4 := hC9.res.free 4
  have u5 := hC9.res.free 5
  have HC9 := hidden hC9
  have HW9 := hidden hW9
  have HR9 := hidden hr9
  have HROW9 := hidden hrow9
  clear hrow8 hg8 hB8 hC8 hrow9 hr8 hr9 hW9 hC9 HOB7 y5 HST7 HC7 HROW7 HFX7
  go_upto_region 4 with fail
  rw [HW9.out]
  clear z5 f5 HW9
  go_wp2_with fail
  have p0 := HC9.out.res.put 0 (.string nm)
  have p1 := p0.put 1 (.int .i64 kd)
  have p2 := p1.put 2 (.int .i64 al)
  have p3 := p2.put 3 (.slice b6 nb d6)
  have p4 := p3.put 4 (.int .i64 sz)
  have p5 := p4.put 5 (.slice b8 nf d8)
  have hgr : ∀ (W : World) (i : Nat) (u : Value), W.grownBy (W.setCell ⟨w.heap.size + 1, i, none⟩ u) (some (w.heap.size + 1)) := fun W i u => only_put' i u
  have hG := only_trans (only_trans (only_trans (only_trans (only_trans (hgr W9 0 (.string nm)) (hgr _ 1 (.int .i64 kd))) (hgr _ 2 (.int .i64 al))) (hgr _ 3 (.slice b6 nb d6))) (hgr _ 4 (.int .i64 sz))) (hgr _ 5 (.slice b8 nf d8))
  refine bodyPost_ret (results_cell_row rfl _ _ (w.heap.size + 1) 42 #[.string nm, .int .i64 kd, .int .i64 al, .slice b6 nb d6, .int .i64 sz, .slice b8 nf d8] (0, 0) _ rfl p5 Try.underlying42 rfl (by kernel_rfl)) rfl ?_
  exact ⟨b6, b8, d6, d8, rfl, HR9.out.kept hG (row_apart HR9.out HC9.out.res (by decide)), HROW9.out.kept hG (row_apart HROW9.out HC9.out.res (by decide)), HC9.out.below.grown hG HC9.out.below.size (by intro q hq; injection hq with hq; omega)⟩
/-- Sections in rows of their own, as an answer. -/
def OwnSecs (w : World) (l : List Sp) (n : Nat) (e : Ending) (w' : World) : Prop :=
  ∃ (L : List Sp) (a : Option Addr) (c : Nat), e = .returned (.slice a n c) ∧ L.length = n ∧ L.map Sp.s = l.map Sp.s ∧ SR w' w.heap.size (.slice a n c) L ∧ Below w.heap.size w w'
set_option maxRecDepth 100000 in
set_option maxHeartbeats 4000000 in
theorem l1OwnSectionList_any (w : World) (B : Nat) (a1 : Option Addr) (c1 n : Nat) (l : List Sp) (hn : n = l.length) (h1 : Sects w B a1 l) (hB : B ≤ w.heap.size) (hlen : n ≤ 1048576) (hl : ∀ y ∈ l, y.s.short) :
    Calls Try.prog 74 #[.slice a1 n c1] w (OwnSecs w l n) := by
  have HN := hidden hn
  have HL := hidden hl
  have H1 := hidden (h1.more hB)
  have HOW := hidden (fun (W : World) (k : Nat) (y : Sp) (hy : l[k]? = some y) (hb : Below w.heap.size w W) => l1OwnSection_any W w.heap.size y.s y.a1 y.a2 y.c1 y.c2 ((H1.out.below hb).bytes y (List.mem_of_getElem? hy)) ((H1.out.below hb).fixs y (List.mem_of_getElem? hy)) hb.size (HL.out y (List.mem_of_getElem? hy)))
  clear hn hl h1 hB
  go_enter Try.func74, Try.ntmps74
  go_wp2_with fail
  go_loopw [3, 4] (fun v i wr => ∃ (k : Nat) (L : List Sp) (a : Option Addr) (c : Nat), i = .int .i64 k ∧ v = .slice a k c ∧ k ≤ n ∧ Hid (SR wr w.heap.size (.slice a k c) L) ∧ Hid (Below w.heap.size w wr) ∧ Hid (L.map Sp.s = (l.take k).map Sp.s)) (fun _ i _ => n - (intOf i).toNat)
  case atStart =>
    exact ⟨0, [], _, 0, rfl, rfl, Nat.zero_le _, ⟨empty_row w w.heap.size 42 6 (Nat.le_refl _), by simp, by simp, by simp, .nil⟩, (Below.refl _ _).alloc (Nat.le_refl _) _, (by show _ = _; rfl)⟩
  case round =>
    obtain ⟨k, L, a, c, rfl, rfl, hk, hS, hb, hL⟩ := hrel
    have hLk : Hid (L.length = k) := by
      have := congrArg List.length hL.out
      rw [List.length_map, List.length_map, List.length_take, ← HN.out] at this
      show _ = _
      omega
    by_cases hlt : k < n
    · have hilt : (k : Int) < (n : Int) := by omega
      have hkl : k < l.length := by rw [← HN.out]; exact hlt
      have hs1 := H1.out.below hb.out
      obtain ⟨b, off, rfl, hbB, p0, p1, p2, p3, p4, p5⟩ := hs1.at_ hkl
      obtain ⟨y, hy⟩ : ∃ y, l[k] = y := ⟨_, rfl⟩
      rw [hy] at p0 p1 p2 p3 p4 p5
      have hy2 : l[k]? = some y := by rw [List.getElem?_eq_getElem hkl, hy]
      have HCA := hidden (HOW.out wr k y hy2 hb.out)
      have hwf := (hs1.bytes y (List.mem_of_getElem? hy2)).1
      have HTK : Hid ((l.take (k + 1)).map Sp.s = (l.take k).map Sp.s ++ [y.s]) := by show _ = _; rw [take_next hy2]; simp
      unfold Sx.agg OwnSec Sx.agg at HCA
      obtain ⟨⟨nm, kd, al, bs, sz, fs⟩, ya1, yc1, ya2, yc2⟩ := y
      dsimp only at p0 p1 p2 p3 p4 p5 HCA hwf
      obtain ⟨nb, hnb⟩ : ∃ q, bs.length = q := ⟨_, rfl⟩
      obtain ⟨nf, hnf⟩ : ∃ q, fs.length = q := ⟨_, rfl⟩
      rw [hnb] at p3 HCA
      rw [hnf] at p5 HCA
      have HNB := hidden hnb.symm
      have HNF := hidden hnf.symm
      have HWF : Hid (∀ x ∈ bs, (Lit.int .u8 x).wf = true) := hwf
      clear hlt hkl hs1 hbB hy hy2 hwf hnb hnf
      go_wp2_with fail
      refine HCA.out.mono ?_
      clear HCA p0 p1 p2 p3 p4 p5
      rintro e w5 ⟨b6, b8, d6, d8, rfl, hr1, hr2, hb5⟩
      have hS5 := hS.out.kept (grown_only hb5)
      have hb5w := hb.out.trans (hb5.mono hb.out.size)
      have HOWN : Hid ((w5.alloc (.cells #[.string nm, .int .i64 kd, .int .i64 al, .slice b6 nb d6, .int .i64 sz, .slice b8 nf d8] 42)).ownsRow w.heap.size 42 6 (.slice a k c) k (flatS L)) := by
        have := hS5.row.alloc (.cells #[.string nm, .int .i64 kd, .int .i64 al, .slice b6 nb d6, .int .i64 sz, .slice b8 nf d8] 42)
        rwa [hLk.out] at this
      have HNEW : Hid (Has (w5.alloc (.cells #[.string nm, .int .i64 kd, .int .i64 al, .slice b6 nb d6, .int .i64 sz, .slice b8 nf d8] 42)) w5.heap.size 42 [Value.string nm, .int .i64 kd, .int .i64 al, .slice b6 nb d6, .int .i64 sz, .slice b8 nf d8].toArray) := Has.new _ _ _
      have HST : Hid (w.heap.size ≤ (w5.alloc (.cells #[.string nm, .int .i64 kd, .int .i64 al, .slice b6 nb d6, .int .i64 sz, .slice b8 nf d8] 42)).heap.size) := Nat.le_trans hb5w.size (by simp)
      have HS5 := hidden (hS5.alloc (.cells #[.string nm, .int .i64 kd, .int .i64 al, .slice b6 nb d6, .int .i64 sz, .slice b8 nf d8] 42))
      have HB5W := hidden (hb5w.alloc hb5w.size (.cells #[.string nm, .int .i64 kd, .int .i64 al, .slice b6 nb d6, .int .i64 sz, .slice b8 nf d8] 42))
      have HR1 := hidden (World.ownsRow.alloc hr1 (.cells #[.string nm, .int .i64 kd, .int .i64 al, .slice b6 nb d6, .int .i64 sz, .slice b8 nf d8] 42))
      have HR2 := hidden (World.ownsRow.alloc hr2 (.cells #[.string nm, .int .i64 kd, .int .i64 al, .slice b6 nb d6, .int .i64 sz, .slice b8 nf d8] 42))
      have HBW : Hid (w.heap.size ≤ wr.heap.size) := hb.out.size
      clear hr1 hr2 hb5 hS5 hb5w
      go_wp2_with (at_builtin; refine wpList_app_sec _ rfl _ _ rfl w.heap.size _ k (flatS L) rfl HOWN.out w5.heap.size 1 [Value.string nm, .int .i64 kd, .int .i64 al, .slice b6 nb d6, .int .i64 sz, .slice b8 nf d8] rfl rfl HNEW.out (by intro u hu; simp only [List.mem_cons, List.not_mem_nil, or_false] at hu; rcases hu with rfl | rfl | rfl | rfl | rfl | rfl <;> rfl) (by omega) HST.out ?_)
      intro va' vc' W10 hrow10 hg10
      have hnb := HNB.out
      have hnf := HNF.out
      have hro : ∀ q, (Value.slice a k c).ownBlock = some q → w.heap.size ≤ q := fun q hq => (HOWN.out.lt q hq).1
      have hS10 : SR W10 w.heap.size (.slice va' (k + 1) vc') (L ++ [(⟨⟨nm, kd, al, bs, sz, fs⟩, b6, d6, b8, d8⟩ : Sp)]) :=
        HS5.out.app (y := ⟨⟨nm, kd, al, bs, sz, fs⟩, b6, d6, b8, d8⟩) (hS.out.later (Nat.le_refl _) (y := ⟨⟨nm, kd, al, bs, sz, fs⟩, b6, d6, b8, d8⟩) HR1.out HR2.out) HWF.out (row_lower (by dsimp only; rw [← hnb]; exact HR1.out) HBW.out) (row_lower (by dsimp only; rw [← hnf]; exact HR2.out) HBW.out) (by rw [hLk.out]; dsimp only; rw [← hnb, ← hnf]; exact hrow10) hg10
      have HS10 := hidden hS10
      have HB10 : Hid (Below w.heap.size w W10) := HB5W.out.grown hg10 HB5W.out.size hro
      have HLN' : Hid ((L ++ [(⟨⟨nm, kd, al, bs, sz, fs⟩, b6, d6, b8, d8⟩ : Sp)]).map Sp.s = (l.take (k + 1)).map Sp.s) := by
        show _ = _
        rw [HTK.out, ← hL.out]; simp
      clear hrow10 hg10 hnb hnf hro hS10 HOWN HNEW HST HS5 HB5W HR1 HR2 HBW hS hb hL hLk HTK HNB HNF HWF
      go_wp2_with fail
      go_roundw
      case rel => exact ⟨k + 1, _, va', vc', by go_num, rfl, by omega, HS10, HB10, HLN'⟩
      case measure => simp [intOf]; omega
    · have hilt : ¬ (k : Int) < (n : Int) := by omega
      have hkn : k = n := by omega
      subst hkn
      have HLL : Hid (L.map Sp.s = l.map Sp.s) := by
        show _ = _
        rw [hL.out, List.take_of_length_le (by rw [← HN.out]; exact Nat.le_refl _)]
      clear hlt hL hk
      go_wp2_with fail
      go_ret
      exact ⟨L, a, c, rfl, hLk.out, HLL.out, hS.out, hb.out⟩
set_option maxRecDepth 100000 in
set_option maxHeartbeats 4000000 in
theorem l1OwnObject_any (w : World) (B : Nat) (a1 a2 : Option Addr) (c1 c2 n m : Nat) (l : List Sp) (ms : List Sm) (hn : n = l.length) (hm : m = ms.length) (h1 : Sects w B a1 l) (h2 : Syms w B a2 ms) (hB : B ≤ w.heap.size) (hlen : n ≤ 1048576) (hlem : m ≤ 1048576) (hl : ∀ y ∈ l, y.s.short) :
    Calls Try.prog 58 #[.agg #[.slice a1 n c1, .slice a2 m c2]] w (AnsO w (l.map Sp.s, ms)) := by
  have hA : Has ((w.alloc (.cells #[.slice a1 n c1, .slice a2 m c2] 29)).alloc (.cells #[.slice none 0 0, .slice none 0 0] 29)) w.heap.size 29 #[.slice a1 n c1, .slice a2 m c2] := (Has.new _ _ _).alloc _
  have hBa : Below w.heap.size w ((w.alloc (.cells #[.slice a1 n c1, .slice a2 m c2] 29)).alloc (.cells #[.slice none 0 0, .slice none 0 0] 29)) := ((Below.refl _ _).alloc (Nat.le_refl _) _).alloc (by simp) _
  have hR : Has ((w.alloc (.cells #[.slice a1 n c1, .slice a2 m c2] 29)).alloc (.cells #[.slice none 0 0, .slice none 0 0] 29)) (w.heap.size + 1) 29 #[.slice none 0 0, .slice none 0 0] := by
    have := Has.new (w.alloc (.cells #[.slice a1 n c1, .slice a2 m c2] 29)) 29 #[.slice none 0 0, .slice none 0 0]
    simpa using this
  obtain ⟨W2, hW2⟩ : ∃ q, ((w.alloc (.cells #[.slice a1 n c1, .slice a2 m c2] 29)).alloc (.cells #[.slice none 0 0, .slice none 0 0] 29)) = q := ⟨_, rfl⟩
  rw [hW2] at hA hBa hR
  have hb3 : Below w.heap.size w (W2.alloc (.cells #[.slice a1 n c1, .slice a2 m c2] 29)) := hBa.alloc hBa.size _
  have ha3 := hA.alloc (.cells #[.slice a1 n c1, .slice a2 m c2] 29)
  have hr3 := hR.alloc (.cells #[.slice a1 n c1, .slice a2 m c2] 29)
  have ho3 : Has (W2.alloc (.cells #[.slice a1 n c1, .slice a2 m c2] 29)) W2.heap.size 29 #[.slice a1 n c1, .slice a2 m c2] := Has.new _ _ _
  have x0 : W2.cell? ⟨w.heap.size, 0, none⟩ = some (.slice a1 n c1) := hA.cell 0
  have x1 : W2.cell? ⟨w.heap.size, 1, none⟩ = some (.slice a2 m c2) := hA.cell 1
  obtain ⟨Q, hQ⟩ : ∃ q, W2.heap.size = q := ⟨_, rfl⟩
  obtain ⟨W3, hW3⟩ : ∃ q, W2.alloc (.cells #[.slice a1 n c1, .slice a2 m c2] 29) = q := ⟨_, rfl⟩
  have hfar : w.heap.size + 1 < Q := by rw [← hQ]; exact hR.lt
  rw [hW3] at hb3 ha3 hr3
  rw [hW3, hQ] at ho3
  have HW2 := hidden hW2
  have HW3 := hidden hW3
  have HQ := hidden hQ
  have HM := hidden hm
  have H2 := hidden (h2.more hB)
  have HC := hidden (l1OwnSectionList_any W3 w.heap.size a1 c1 n l hn ((h1.more hB).below hb3) hb3.size hlen hl)
  have y0 : W3.cell? ⟨w.heap.size, 0, none⟩ = some (.slice a1 n c1) := ha3.cell 0
  have HB3 := hidden hb3
  have HA3 := hidden ha3
  have HR3 := hidden hr3
  have HO3 := hidden ho3
  clear h1 h2 hl hB hW2 hn hm hA hR hBa hb3 ha3 hr3 ho3 hQ hW3
  go_enter Try.func58, Try.ntmps58
  go_upto_region 1 with fail
  rw [HW2.out]
  clear HW2
  go_upto_region 2 with fail
  rw [HW3.out, HQ.out]
  clear HW3 HQ x0 x1
  go_wp2_with fail
  refine HC.out.mono ?_
  clear HC y0
  rintro e w4 ⟨L, va, vc, rfl, hLn, hLs, hS4, hb4⟩
  have ha4 := HA3.out.below hb4 HA3.out.lt
  have hr4 := HR3.out.below hb4 HR3.out.lt
  have ho4 := HO3.out.below hb4 HO3.out.lt
  have hb4w := HB3.out.trans (hb4.mono HB3.out.size)
  have z0 : w4.cell? ⟨Q, 0, none⟩ = some (.slice a1 n c1) := ho4.cell 0
  have f0 : w4.frozen? ⟨Q, 0, none⟩ = false := ho4.free 0
  have hg5 : w4.grownBy (w4.setCell ⟨Q, 0, none⟩ (.slice va n vc)) (some Q) := only_put' 0 _
  have ho5 : Has (w4.setCell ⟨Q, 0, none⟩ (.slice va n vc)) Q 29 #[.slice va n vc, .slice a2 m c2] := ho4.put 0 _
  have hS5 := (hS4.other ho4 (by decide) (by decide) (by decide) hg5).lower HB3.out.size
  have ha5 := ha4.away (p := ⟨Q, 0, none⟩) (by show w.heap.size ≠ Q; omega) (.slice va n vc)
  have hr5 := hr4.away (p := ⟨Q, 0, none⟩) (by show w.heap.size + 1 ≠ Q; omega) (.slice va n vc)
  have hb5 := hb4w.grown hg5 hb4w.size (by intro q hq; injection hq with hq; omega)
  obtain ⟨W5, hW5⟩ : ∃ q, w4.setCell ⟨Q, 0, none⟩ (.slice va n vc) = q := ⟨_, rfl⟩
  rw [hW5] at ho5 hS5 ha5 hr5 hb5
  have HOWN := hidden (empty_row W5 w.heap.size 82 4 hb5.size)
  have y1 : (W5.alloc (.cells #[] 82)).cell? ⟨w.heap.size, 1, none⟩ = some (.slice a2 m c2) := (ha5.alloc _).cell 1
  have HST : Hid (w.heap.size ≤ (W5.alloc (.cells #[] 82)).heap.size) := Nat.le_trans hb5.size (by simp)
  have HSY := hidden ((H2.out.below hb5).alloc hb5.size (.cells #[] 82))
  have HW5 := hidden hW5
  have HO5 := hidden ho5
  have HS5 := hidden hS5
  have HA5 := hidden ha5
  have HR5 := hidden hr5
  have HB5 := hidden hb5
  have HLN := hidden hLn
  have HLS := hidden hLs
  clear ha4 hr4 ho4 hb4w hg5 ho5 hS5 ha5 hr5 hb5 hW5 hb4 hS4 hLn hLs HA3 HR3 HO3 HB3 H2
  go_upto_region 3 with fail
  rw [HW5.out]
  clear z0 f0 HW5
  go_wp2_with (at_builtin; refine wpList_copy_syms _ rfl _ _ rfl w.heap.size _ rfl HOWN.out a2 m c2 _ ms HM.out rfl HSY.out (by omega) HST.out ?_)
  intro b2 d2 W6 hrow6 hg6
  have hB6 : Below W5.heap.size W5 W6 := ((Below.refl W5.heap.size W5).alloc (Nat.le_refl _) _).grown hg6 (by simp) (by intro q hq; simp [Value.ownBlock] at hq; omega)
  have ho6 := HO5.out.below hB6 HO5.out.lt
  have z1 : W6.cell? ⟨Q, 1, none⟩ = some (.slice a2 m c2) := ho6.cell 1
  have f1 : W6.frozen? ⟨Q, 1, none⟩ = false := ho6.free 1
  have hg7 : W6.grownBy (W6.setCell ⟨Q, 1, none⟩ (.slice b2 m d2)) (some Q) := only_put' 1 _
  have hb6 := HB5.out.trans (hB6.mono HB5.out.size)
  have hM := HM.out
  have hC7 : CpS w (W6.setCell ⟨Q, 1, none⟩ (.slice b2 m d2)) (.slice a1 n c1) (.slice a2 m c2) Q (.slice va n vc) (.slice b2 m d2) L ms :=
    ⟨hb6.grown hg7 hb6.size (by intro q hq; injection hq with hq; omega), (HA5.out.below hB6 HA5.out.lt).away (by show w.heap.size ≠ Q; omega) _, (HR5.out.below hB6 HR5.out.lt).away (by show w.heap.size + 1 ≠ Q; omega) _,
     ⟨ho6.put 1 _, (HS5.out.kept (grown_only hB6)).other ho6 (by decide) (by decide) (by decide) hg7, (by rw [← hM]; exact hrow6.kept hg7 (row_apart hrow6 ho6 (by decide)))⟩, hfar⟩
  obtain ⟨W7, hW7⟩ : ∃ q, W6.setCell ⟨Q, 1, none⟩ (.slice b2 m d2) = q := ⟨_, rfl⟩
  rw [hW7] at hC7
  have o0 : W7.cell? ⟨Q, 0, none⟩ = some (.slice va n vc) := hC7.ob.obj.cell 0
  have o1' : W7.cell? ⟨Q, 1, none⟩ = some (.slice b2 m d2) := hC7.ob.obj.cell 1
  have r0 : W7.cell? ⟨w.heap.size + 1, 0, none⟩ = some (.slice none 0 0) := hC7.res.cell 0
  have r1 : W7.cell? ⟨w.heap.size + 1, 1, none⟩ = some (.slice none 0 0) := hC7.res.cell 1
  have u0 : W7.frozen? ⟨w.heap.size + 1, 0, none⟩ = false := hC7.res.free 0
  have u1 : W7.frozen? ⟨w.heap.size + 1, 1, none⟩ = false := hC7.res.free 1
  have HAN := hidden (hC7.answer HLN.out.symm HM.out)
  have HW7 := hidden hW7
  clear hrow6 hg6 hB6 ho6 hg7 hb6 hM hC7 hW7 HSY HOWN HST HO5 HS5 HA5 HR5 HB5 y1 hfar
  go_upto_region 4 with fail
  rw [HW7.out]
  clear z1 f1 HW7
  go_wp2_with fail
  refine bodyPost_ret (results_cell_row rfl _ _ (w.heap.size + 1) 29 #[.slice va n vc, .slice b2 m d2] (0, 0) _ rfl HAN.out.1 Try.underlying29 rfl (by kernel_rfl)) rfl ?_
  have := HAN.out.2
  rw [HLS.out] at this
  exact this

end Go.Proofs.Ytiocchmlmcoieaa

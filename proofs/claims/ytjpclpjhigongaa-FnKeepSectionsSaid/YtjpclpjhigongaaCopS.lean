/-
  spec.l4Copy: the copy of an object.
-/
import Derived.Test.YtjpclpjhigongaaCopO
import Derived.Deep.RegionWith
import Derived.Deep.CutBlock
import Derived.IntWalk
namespace Go.Proofs.Ytjpclpjhigongaa
open Go.RowKit

/-- What stands while an object is copied: the argument, the place of the answer, the object so far. -/
structure CpS (w W : World) (va vb : Value) (q : Nat) (vs vm : Value) (L : List Sp) (ms : List Sm) : Prop where
  below : Below w.heap.size w W
  arg : Has W w.heap.size 26 #[va, vb]
  res : Has W (w.heap.size + 1) 26 #[.slice none 0 0, .slice none 0 0]
  ob : Ob W q w.heap.size vs vm L ms
  far : w.heap.size + 1 < q
theorem CpS.answer {w W : World} {va vb : Value} {q : Nat} {a1 a2 : Option Addr} {n m c1 c2 : Nat} {L : List Sp} {ms : List Sm} (h : CpS w W va vb q (.slice a1 n c1) (.slice a2 m c2) L ms) (hn : n = L.length) (hm : m = ms.length) :
    Has ((W.setCell ⟨w.heap.size + 1, 0, none⟩ (.slice a1 n c1)).setCell ⟨w.heap.size + 1, 1, none⟩ (.slice a2 m c2)) (w.heap.size + 1) 26 #[.slice a1 n c1, .slice a2 m c2] ∧
      AnsO w (L.map Sp.s, ms) (.returned (.agg #[.slice a1 n c1, .slice a2 m c2])) ((W.setCell ⟨w.heap.size + 1, 0, none⟩ (.slice a1 n c1)).setCell ⟨w.heap.size + 1, 1, none⟩ (.slice a2 m c2)) := by
  have hne : q ≠ w.heap.size + 1 := by have := h.far; omega
  have r1 := h.res.put 0 (.slice a1 n c1)
  have o1 := h.ob.away h.res hne 0 (.slice a1 n c1)
  have b1 : Below w.heap.size w (W.setCell ⟨w.heap.size + 1, 0, none⟩ (.slice a1 n c1)) := h.below.grown (only_put' 0 _) h.below.size (by intro q hq; injection hq with hq; omega)
  exact ⟨r1.put 1 _, (o1.away r1 hne 1 _).ans (b1.grown (only_put' 1 _) b1.size (by intro q hq; injection hq with hq; omega)) hn hm⟩
theorem take_next {α : Type} {l : List α} {k : Nat} {y : α} (h : l[k]? = some y) : l.take (k + 1) = l.take k ++ [y] := by
  rw [List.take_add_one, h]; rfl
set_option maxRecDepth 100000 in
set_option maxHeartbeats 4000000 in
theorem l4Copy_any (w : World) (B : Nat) (a1 a2 : Option Addr) (c1 c2 n m : Nat) (l : List Sp) (ms : List Sm) (hn : n = l.length) (hm : m = ms.length) (h1 : Sects w B a1 l) (h2 : Syms w B a2 ms) (hB : B ≤ w.heap.size) (hlen : n ≤ 1048576) (hlem : m ≤ 1048576) (hl : ∀ y ∈ l, y.s.short) :
    Calls Try.prog 59 #[.agg #[.slice a1 n c1, .slice a2 m c2]] w (AnsO w (l.map Sp.s, ms)) := by
  have hA : Has ((w.alloc (.cells #[.slice a1 n c1, .slice a2 m c2] 26)).alloc (.cells #[.slice none 0 0, .slice none 0 0] 26)) w.heap.size 26 #[.slice a1 n c1, .slice a2 m c2] := (Has.new _ _ _).alloc _
  have hBa : Below w.heap.size w ((w.alloc (.cells #[.slice a1 n c1, .slice a2 m c2] 26)).alloc (.cells #[.slice none 0 0, .slice none 0 0] 26)) := ((Below.refl _ _).alloc (Nat.le_refl _) _).alloc (by simp) _
  have hR : Has ((w.alloc (.cells #[.slice a1 n c1, .slice a2 m c2] 26)).alloc (.cells #[.slice none 0 0, .slice none 0 0] 26)) (w.heap.size + 1) 26 #[.slice none 0 0, .slice none 0 0] := by
    have := Has.new (w.alloc (.cells #[.slice a1 n c1, .slice a2 m c2] 26)) 26 #[.slice none 0 0, .slice none 0 0]
    simpa using this
  obtain ⟨W2, hW2⟩ : ∃ q, (w.alloc (.cells #[.slice a1 n c1, .slice a2 m c2] 26)).alloc (.cells #[.slice none 0 0, .slice none 0 0] 26) = q := ⟨_, rfl⟩
  rw [hW2] at hA hBa hR
  have HW2 := hidden hW2
  have HN := hidden hn
  have HM := hidden hm
  have HL := hidden hl
  have H1 := hidden (h1.more hB)
  have H2 := hidden (h2.more hB)
  have HOWN := hidden (empty_row W2 w.heap.size 59 4 hBa.size)
  have x0 : (W2.alloc (.cells #[] 59)).cell? ⟨w.heap.size, 1, none⟩ = some (.slice a2 m c2) := (hA.alloc _).cell 1
  have HST : Hid (w.heap.size ≤ (W2.alloc (.cells #[] 59)).heap.size) := Nat.le_trans hBa.size (by simp)
  have HSY := hidden ((H2.out.below hBa).alloc hBa.size (.cells #[] 59))
  have HA := hidden hA
  have HR := hidden hR
  have HBA := hidden hBa
  clear h1 h2 hl hB hW2 hn hm hA hR hBa
  go_enter Try.func59, Try.ntmps59
  go_upto_region 1 with fail
  rw [HW2.out]
  clear HW2
  go_wp2_with (at_builtin; refine wpList_copy_syms _ rfl _ _ rfl w.heap.size _ rfl HOWN.out a2 m c2 _ ms HM.out rfl HSY.out (by omega) HST.out ?_)
  intro b2 d2 w3 hrow3 hg3
  have hB3 : Below W2.heap.size W2 w3 := ((Below.refl W2.heap.size W2).alloc (Nat.le_refl _) _).grown hg3 (by simp) (by intro q hq; simp [Value.ownBlock] at hq; omega)
  have hC : CpS w (w3.alloc (.cells #[.slice none 0 0, .slice b2 m d2] 26)) (.slice a1 n c1) (.slice a2 m c2) w3.heap.size (.slice none 0 0) (.slice b2 m d2) [] ms := by
    refine ⟨(HBA.out.trans (hB3.mono HBA.out.size)).alloc (Nat.le_trans HBA.out.size hB3.size) _, (HA.out.below hB3 HA.out.lt).alloc _, (HR.out.below hB3 HR.out.lt).alloc _, ⟨Has.new _ _ _, SR.nil _ _, by rw [← HM.out]; exact hrow3.alloc _⟩, ?_⟩
    exact Nat.lt_of_lt_of_le HR.out.lt hB3.size
  obtain ⟨Q, hQ⟩ : ∃ q, w3.heap.size = q := ⟨_, rfl⟩
  obtain ⟨W4, hW4⟩ : ∃ q, w3.alloc (.cells #[.slice none 0 0, .slice b2 m d2] 26) = q := ⟨_, rfl⟩
  rw [hW4, hQ] at hC
  have HC := hidden hC
  have HW4 := hidden hW4
  have HQ := hidden hQ
  clear hC hW4 hQ hrow3 hg3 hB3 HOWN x0 HST HSY HA HR HBA
  go_upto_region 2 with fail
  rw [HW4.out, HQ.out]
  clear HW4 HQ
  go_wp2_with fail
  go_loopw [4] (fun i wr => ∃ (k : Nat) (L : List Sp) (va : Option Addr) (vc : Nat), i = .int .i64 k ∧ k ≤ n ∧ Hid (CpS w wr (.slice a1 n c1) (.slice a2 m c2) Q (.slice va k vc) (.slice b2 m d2) L ms) ∧ Hid (L.map Sp.s = (l.take k).map Sp.s)) (fun i _ => n - (intOf i).toNat)
  case atStart => exact ⟨0, [], none, 0, rfl, Nat.zero_le _, HC, (by show _ = _; rfl)⟩
  case round =>
    obtain ⟨k, L, va, vc, rfl, hk, hc, hL⟩ := hrel
    have hLk : Hid (L.length = k) := by
      have := congrArg List.length hL.out
      rw [List.length_map, List.length_map, List.length_take, ← HN.out] at this
      show _ = _
      omega
    have q0 : wr.cell? ⟨w.heap.size, 0, none⟩ = some (.slice a1 n c1) := hc.out.arg.cell 0
    by_cases hlt : k < n
    · have hilt : (k : Int) < (n : Int) := by omega
      have hkl : k < l.length := by rw [← HN.out]; exact hlt
      have hs1 := H1.out.below hc.out.below
      obtain ⟨b, off, rfl, hbB, p0, p1, p2, p3, p4, p5⟩ := hs1.at_ hkl
      obtain ⟨y, hy⟩ : ∃ y, l[k] = y := ⟨_, rfl⟩
      rw [hy] at p0 p1 p2 p3 p4 p5
      have hy2 : l[k]? = some y := by rw [List.getElem?_eq_getElem hkl, hy]
      have hym : y ∈ l := by rw [← hy]; exact List.getElem_mem hkl
      obtain ⟨-, hsb, hsf⟩ := HL.out y hym
      have hby := hs1.bytes y hym
      have hfx := hs1.fixs y hym
      have HLN : Hid ((L ++ [y]).map Sp.s = L.map Sp.s ++ [y.s]) := by show _ = _; simp
      have HTK : Hid ((l.take (k + 1)).map Sp.s = (l.take k).map Sp.s ++ [y.s]) := by show _ = _; rw [take_next hy2]; simp
      obtain ⟨⟨nm, kd, al, bs, sz, fs⟩, ya1, yc1, ya2, yc2⟩ := y
      dsimp only at p0 p1 p2 p3 p4 p5 hsb hsf hby hfx
      obtain ⟨nb, hnb⟩ : ∃ q, bs.length = q := ⟨_, rfl⟩
      obtain ⟨nf, hnf⟩ : ∃ q, fs.length = q := ⟨_, rfl⟩
      rw [hnb] at p3 hsb
      rw [hnf] at p5 hsf
      have HNB := hidden hnb.symm
      have HNF := hidden hnf.symm
      have hS5 : Has (wr.alloc (.cells #[.string nm, .int .i64 kd, .int .i64 al, .slice ya1 nb yc1, .int .i64 sz, .slice ya2 nf yc2] 64)) wr.heap.size 64 #[.string nm, .int .i64 kd, .int .i64 al, .slice ya1 nb yc1, .int .i64 sz, .slice ya2 nf yc2] := Has.new _ _ _
      have hb5 : Below wr.heap.size wr (wr.alloc (.cells #[.string nm, .int .i64 kd, .int .i64 al, .slice ya1 nb yc1, .int .i64 sz, .slice ya2 nf yc2] 64)) := (Below.refl _ _).alloc (Nat.le_refl _) _
      obtain ⟨W5, hW5⟩ : ∃ q, wr.alloc (.cells #[.string nm, .int .i64 kd, .int .i64 al, .slice ya1 nb yc1, .int .i64 sz, .slice ya2 nf yc2] 64) = q := ⟨_, rfl⟩
      obtain ⟨g, hg⟩ : ∃ q, wr.heap.size = q := ⟨_, rfl⟩
      rw [hW5] at hS5 hb5
      have HWR : Hid (w.heap.size ≤ wr.heap.size) := hc.out.below.size
      have HBY := hidden ((hby.below (hb5.mono hc.out.below.size)).alloc (Nat.le_trans hc.out.below.size hb5.size) (.cells #[] 5))
      have HFX := hidden (hfx.below (hb5.mono hc.out.below.size))
      rw [hg] at hS5
      have HWG : Hid (w.heap.size ≤ g) := by show _ ≤ _; rw [← hg]; exact HWR.out
      have hgs : g ≤ W5.heap.size := by rw [← hg]; exact hb5.size
      have HOB := hidden (empty_row W5 g 5 1 hgs)
      have y3 : (W5.alloc (.cells #[] 5)).cell? ⟨g, 3, none⟩ = some (.slice ya1 nb yc1) := (hS5.alloc _).cell 3
      have HST : Hid (g ≤ (W5.alloc (.cells #[] 5)).heap.size) := Nat.le_trans hgs (by simp)
      have HS5 := hidden hS5
      have HB5 := hidden hb5
      have HW5 := hidden hW5
      have HG := hidden hg
      have HWF : Hid (∀ x ∈ bs, (Lit.int .u8 x).wf = true) := hby.1
      clear hgs hlt hkl hs1 hbB hy hy2 hym hby hfx hnb hnf hS5 hb5 hW5 hg
      go_upto_region 6 with fail
      rw [HW5.out, HG.out]
      clear p0 p1 p2 p3 p4 p5 q0 HW5
      go_wp2_with (at_builtin; refine wpList_copy_ints _ rfl _ _ rfl g _ rfl HOB.out ya1 nb yc1 _ bs HNB.out rfl HBY.out (by omega) HST.out ?_)
      intro b6 d6 W6 hrow6 hg6
      have hB6 : Below W5.heap.size W5 W6 := ((Below.refl W5.heap.size W5).alloc (Nat.le_refl _) _).grown hg6 (by simp) (by intro q hq; simp [Value.ownBlock] at hq; omega)
      have hS6 := HS5.out.below hB6 HS5.out.lt
      have z3 : W6.cell? ⟨g, 3, none⟩ = some (.slice ya1 nb yc1) := hS6.cell 3
      have f3 : W6.frozen? ⟨g, 3, none⟩ = false := hS6.free 3
      have hS7 : Has (W6.setCell ⟨g, 3, none⟩ (.slice b6 nb d6)) g 64 #[.string nm, .int .i64 kd, .int .i64 al, .slice b6 nb d6, .int .i64 sz, .slice ya2 nf yc2] := hS6.put 3 _
      have hrow7 := World.ownsRow.kept hrow6 (only_put' (g := g) 3 (.slice b6 nb d6)) (row_apart hrow6 hS6 (by decide))
      have hb6 := HB5.out.trans (hB6.mono HB5.out.size)
      have hb7 : Below wr.heap.size wr (W6.setCell ⟨g, 3, none⟩ (.slice b6 nb d6)) := hb6.grown (only_put' 3 _) hb6.size (by intro q hq; injection hq with hq; have := HG.out; omega)
      have hfx7 : Fixs (W6.setCell ⟨g, 3, none⟩ (.slice b6 nb d6)) w.heap.size ya2 fs := (HFX.out.below (hB6.mono (Nat.le_trans HWR.out HB5.out.size))).keep fun p hp => World.cell?_of_block (Below.heap_setCell W6 ⟨g, 3, none⟩ _ p.block (by have := HWG.out; show p.block ≠ g; omega))
      obtain ⟨W7, hW7⟩ : ∃ q, W6.setCell ⟨g, 3, none⟩ (.slice b6 nb d6) = q := ⟨_, rfl⟩
      rw [hW7] at hS7 hrow7 hb7 hfx7
      have hgs : g ≤ W7.heap.size := by rw [← HG.out]; exact hb7.size
      have HOB7 := hidden (empty_row W7 g 71 4 hgs)
      have y5 : (W7.alloc (.cells #[] 71)).cell? ⟨g, 5, none⟩ = some (.slice ya2 nf yc2) := (hS7.alloc _).cell 5
      have HST7 : Hid (g ≤ (W7.alloc (.cells #[] 71)).heap.size) := Nat.le_trans hgs (by simp)
      have HS7 := hidden hS7
      have HB7 := hidden hb7
      have HW7 := hidden hW7
      have HROW7 := hidden hrow7
      have HFX7 := hidden (hfx7.alloc (Nat.le_trans HWR.out hb7.size) (.cells #[] 71))
      clear hgs hrow6 hg6 hB6 hS6 hS7 hrow7 hb6 hb7 hfx7 hW7 HOB y3 HST HS5 HB5 HBY HFX
      go_upto_region 7 with fail
      rw [HW7.out]
      clear z3 f3 HW7
      go_wp2_with (at_builtin; refine wpList_copy_fixs _ rfl _ _ rfl g _ rfl HOB7.out ya2 nf yc2 _ fs HNF.out rfl HFX7.out (by omega) HST7.out ?_)
      intro b8 d8 W8 hrow8 hg8
      have hB8 : Below W7.heap.size W7 W8 := ((Below.refl W7.heap.size W7).alloc (Nat.le_refl _) _).grown hg8 (by simp) (by intro q hq; simp [Value.ownBlock] at hq; omega)
      have hS8 := HS7.out.below hB8 HS7.out.lt
      have z5 : W8.cell? ⟨g, 5, none⟩ = some (.slice ya2 nf yc2) := hS8.cell 5
      have f5 : W8.frozen? ⟨g, 5, none⟩ = false := hS8.free 5
      have hS9 : Has (W8.setCell ⟨g, 5, none⟩ (.slice b8 nf d8)) g 64 #[.string nm, .int .i64 kd, .int .i64 al, .slice b6 nb d6, .int .i64 sz, .slice b8 nf d8] := hS8.put 5 _
      have hrow9 := World.ownsRow.kept hrow8 (only_put' (g := g) 5 (.slice b8 nf d8)) (row_apart hrow8 hS8 (by decide))
      have hr8 := World.ownsRow.kept HROW7.out (grown_only hB8) (Classical.em _)
      have hr9 := World.ownsRow.kept hr8 (only_put' (g := g) 5 (.slice b8 nf d8)) (row_apart hr8 hS8 (by decide))
      have hb8 := HB7.out.trans (hB8.mono HB7.out.size)
      have hb9 : Below wr.heap.size wr (W8.setCell ⟨g, 5, none⟩ (.slice b8 nf d8)) := hb8.grown (only_put' 5 _) hb8.size (by intro q hq; injection hq with hq; have := HG.out; omega)
      obtain ⟨W9, hW9⟩ : ∃ q, W8.setCell ⟨g, 5, none⟩ (.slice b8 nf d8) = q := ⟨_, rfl⟩
      rw [hW9] at hS9 hrow9 hr9 hb9
      have hC9 := hc.out.ob.only hb9
      have o0 : W9.cell? ⟨Q, 0, none⟩ = some (.slice va k vc) := hC9.obj.cell 0
      have s0 : W9.cell? ⟨g, 0, none⟩ = some (.string nm) := hS9.cell 0
      have s1 : W9.cell? ⟨g, 1, none⟩ = some (.int .i64 kd) := hS9.cell 1
      have s2 : W9.cell? ⟨g, 2, none⟩ = some (.int .i64 al) := hS9.cell 2
      have s3 : W9.cell? ⟨g, 3, none⟩ = some (.slice b6 nb d6) := hS9.cell 3
      have s4 : W9.cell? ⟨g, 4, none⟩ = some (.int .i64 sz) := hS9.cell 4
      have s5 : W9.cell? ⟨g, 5, none⟩ = some (.slice b8 nf d8) := hS9.cell 5
      have hwW : w.heap.size ≤ W9.heap.size := Nat.le_trans HWR.out hb9.size
      have HOW : Hid ((W9.alloc (.cells #[.string nm, .int .i64 kd, .int .i64 al, .slice b6 nb d6, .int .i64 sz, .slice b8 nf d8] 64)).ownsRow w.heap.size 64 6 (.slice va k vc) k (flatS L)) := by
        have := hC9.secs.row.alloc (.cells #[.string nm, .int .i64 kd, .int .i64 al, .slice b6 nb d6, .int .i64 sz, .slice b8 nf d8] 64)
        rwa [hLk.out] at this
      have HNEW : Hid (Has (W9.alloc (.cells #[.string nm, .int .i64 kd, .int .i64 al, .slice b6 nb d6, .int .i64 sz, .slice b8 nf d8] 64)) W9.heap.size 64 [Value.string nm, .int .i64 kd, .int .i64 al, .slice b6 nb d6, .int .i64 sz, .slice b8 nf d8].toArray) := Has.new _ _ _
      have HST9 : Hid (w.heap.size ≤ (W9.alloc (.cells #[.string nm, .int .i64 kd, .int .i64 al, .slice b6 nb d6, .int .i64 sz, .slice b8 nf d8] 64)).heap.size) := Nat.le_trans hwW (by simp)
      have HW9 := hidden hW9
      have HB9 := hidden hb9
      have HR9 := hidden hr9
      have HROW9 := hidden hrow9
      clear hrow8 hg8 hB8 hS8 hS9 hrow9 hr8 hr9 hb8 hb9 hW9 hC9 HOB7 y5 HST7 HS7 HB7 HROW7 HFX7
      go_upto_region 8 with fail
      rw [HW9.out]
      clear z5 f5 HW9
      go_wp2_with (at_builtin; refine wpList_app_sec _ rfl _ _ rfl w.heap.size _ k (flatS L) rfl HOW.out W9.heap.size 1 [Value.string nm, .int .i64 kd, .int .i64 al, .slice b6 nb d6, .int .i64 sz, .slice b8 nf d8] rfl rfl HNEW.out (by intro u hu; simp only [List.mem_cons, List.not_mem_nil, or_false] at hu; rcases hu with rfl | rfl | rfl | rfl | rfl | rfl <;> rfl) (by omega) HST9.out ?_)
      intro va' vc' W10 hrow10 hg10
      have hb9a : Below wr.heap.size wr (W9.alloc (.cells #[.string nm, .int .i64 kd, .int .i64 al, .slice b6 nb d6, .int .i64 sz, .slice b8 nf d8] 64)) := HB9.out.alloc HB9.out.size _
      have hnb := HNB.out
      have hnf := HNF.out
      obtain ⟨ho10, hob10⟩ := hc.out.ob.appS (y := ⟨⟨nm, kd, al, bs, sz, fs⟩, b6, d6, b8, d8⟩) hc.out.below.size hb9a (by rw [HG.out]; dsimp only; rw [← hnb]; exact HR9.out.alloc _) (by rw [HG.out]; dsimp only; rw [← hnf]; exact HROW9.out.alloc _) HWF.out hg10 (by rw [hLk.out]; dsimp only; rw [← hnb, ← hnf]; exact hrow10)
      have u0 : W10.cell? ⟨Q, 0, none⟩ = some (.slice va k vc) := ho10.cell 0
      have v0 : W10.frozen? ⟨Q, 0, none⟩ = false := ho10.free 0
      have hcw := hc.out.below.trans (hb9a.mono hc.out.below.size)
      have hro : ∀ q, (Value.slice va k vc).ownBlock = some q → w.heap.size ≤ q := fun q hq => (HOW.out.lt q hq).1
      have hbw : Below w.heap.size w W10 := hcw.grown hg10 hcw.size hro
      have harg := (hc.out.arg.below hb9a hc.out.arg.lt)
      have hres := (hc.out.res.below hb9a hc.out.res.lt)
      have hfar := hc.out.far
      have HCN : Hid (CpS w (W10.setCell ⟨Q, 0, none⟩ (.slice va' (k + 1) vc')) (.slice (some ⟨b, off, none⟩) n c1) (.slice a2 m c2) Q (.slice va' (k + 1) vc') (.slice b2 m d2) (L ++ [⟨⟨nm, kd, al, bs, sz, fs⟩, b6, d6, b8, d8⟩]) ms) :=
        ⟨hbw.grown (only_put' 0 _) hbw.size (by intro q hq; injection hq with hq; omega), (harg.grown hg10 (harg.other HOW.out (by decide))).away (by show w.heap.size ≠ Q; omega) _, (hres.grown hg10 (hres.other HOW.out (by decide))).away (by show w.heap.size + 1 ≠ Q; omega) _, hob10, hfar⟩
      have HLN' : Hid ((L ++ [(⟨⟨nm, kd, al, bs, sz, fs⟩, b6, d6, b8, d8⟩ : Sp)]).map Sp.s = (l.take (k + 1)).map Sp.s) := by
        show _ = _
        rw [HTK.out, ← hL.out]; simp
      clear hrow10 hg10 hb9a hnb hnf ho10 hob10 hcw hro hbw harg hres hfar HOW HNEW HST9 HB9 HR9 HROW9 o0 s0 s1 s2 s3 s4 s5 hwW hc hL hLk HTK HLN
      go_wp2_with fail
      go_roundw
      case rel => exact ⟨k + 1, _, va', vc', by go_num, by omega, HCN, HLN'⟩
      case measure => simp [intOf]; omega
    · have hilt : ¬ (k : Int) < (n : Int) := by omega
      have hkn : k = n := by omega
      subst hkn
      have o0 : wr.cell? ⟨Q, 0, none⟩ = some (.slice va k vc) := hc.out.ob.obj.cell 0
      have o1 : wr.cell? ⟨Q, 1, none⟩ = some (.slice b2 m d2) := hc.out.ob.obj.cell 1
      have r0 : wr.cell? ⟨w.heap.size + 1, 0, none⟩ = some (.slice none 0 0) := hc.out.res.cell 0
      have r1 : wr.cell? ⟨w.heap.size + 1, 1, none⟩ = some (.slice none 0 0) := hc.out.res.cell 1
      have f0 : wr.frozen? ⟨w.heap.size + 1, 0, none⟩ = false := hc.out.res.free 0
      have f1 : wr.frozen? ⟨w.heap.size + 1, 1, none⟩ = false := hc.out.res.free 1
      have HAN := hidden (hc.out.answer hLk.out.symm HM.out)
      have HLL : Hid (L.map Sp.s = l.map Sp.s) := by
        show _ = _
        rw [hL.out, List.take_of_length_le (by rw [← HN.out]; exact Nat.le_refl _)]
      clear hlt hc hL hLk hk
      go_wp2_with fail
      refine bodyPost_ret (results_cell_row rfl _ _ (w.heap.size + 1) 26 #[.slice va k vc, .slice b2 m d2] (0, 0) _ rfl HAN.out.1 Try.underlying26 rfl (by kernel_rfl)) rfl ?_
      have := HAN.out.2
      rw [HLL.out] at this
      exact this

end Go.Proofs.Ytjpclpjhigongaa

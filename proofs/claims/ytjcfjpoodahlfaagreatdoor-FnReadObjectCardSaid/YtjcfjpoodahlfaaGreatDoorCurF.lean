import Derived.Shelf.Bytes.SlSmallAll
import Derived.Test.YtjcfjpoodahlfaaGreatDoorCurD
import Derived.Test.YtjcfjpoodahlfaaGreatDoorHdrI
namespace Go.Proofs.YtjcfjpoodahlfaaGreatDoor
open Go.RowKit
def cuK (c : Cu) (k0 k1 k2 k3 : Nat) : Nat → Cu
  | 0 => c
  | 1 => c.past k0
  | 2 => (c.past k0).past k1
  | 3 => ((c.past k0).past k1).past k2
  | _ => (((c.past k0).past k1).past k2).past k3
def svK (s : Sv) (k0 k1 k2 k3 : Nat) : Nat → Sv
  | 0 => s
  | 1 => s.past k0
  | 2 => (s.past k0).past k1
  | 3 => ((s.past k0).past k1).past k2
  | _ => (((s.past k0).past k1).past k2).past k3
theorem SlV.below {W W' : World} {B : Nat} {l : List Int} {v : Value} (h : SlV W B l v) (hb : Below B W W') : SlV W' B l v := by
  obtain ⟨a, cap, e, hi, h1, h2⟩ := h
  exact ⟨a, cap, e, hi.below hb, h1, h2⟩
theorem below_grown {W0 W W' : World} {g : Nat} (h : Below W0.heap.size W0 W) (hg : W.grownBy W' (some g)) (hl : W0.heap.size ≤ g) : Below W0.heap.size W0 W' :=
  h.grown hg h.size (fun j e => by injection e with e; omega)
theorem errV_cases {b : Bool} {v : Value} (h : ErrV b v) : v = .nilIface ∨ ∃ t u, v = .iface t u := by
  cases b
  · exact .inl h
  · exact .inr h
def CursC (W : World) (B : Nat) (cs : Array Value) (vt : Value) (S : C5) : Prop :=
  cs.size = 9 ∧ CurAt W B cs 0 S.s ∧ CurAt W B cs 2 S.m ∧ CurAt W B cs 4 S.f ∧ CurAt W B cs 6 S.b ∧ cs[8]? = some vt ∧ SlV W B S.t vt
structure JCu (W0 : World) (B hb r ab : Nat) (X : Array Value) (c : Cu) (s : Sv) (k0 k1 k2 k3 : Nat) (V0 V1 V2 V3 : Value) (k : Nat) (f : Bool) (W : World) (vals : Nat → Value) : Prop where
  below : Below W0.heap.size W0 W
  hdr : Has W hb 60 X
  res : Has W r 104 #[.slice none 0 0, .nilIface, .slice none 0 0, .nilIface, .slice none 0 0, .nilIface, .slice none 0 0, .nilIface, .slice none 0 0]
  cur : ∃ cs, Cur W B ab 0 102 cs (cuK c k0 k1 k2 k3 k)
  cell : W.cell? ⟨ab, 0, none⟩ = some (svK s k0 k1 k2 k3 k).v
  fix : vals 0 = V0 ∧ vals 1 = V1 ∧ vals 2 = V2 ∧ vals 3 = V3
  ord : k = 5 → f = true
  obj : f = true → ∃ q, vals 5 = .pointer (some ⟨q, 0, none⟩) ∧ ab < q ∧ Has W q 104 (if k = 5 then #[V0, .nilIface, V1, .nilIface, V2, .nilIface, .slice none 0 0, .nilIface, V3] else #[.slice none 0 0, .nilIface, .slice none 0 0, .nilIface, .slice none 0 0, .nilIface, .slice none 0 0, .nilIface, .slice none 0 0])
section
variable {W0 W W' : World} {B hb r ab : Nat} {X : Array Value} {c : Cu} {s : Sv} {k0 k1 k2 k3 : Nat} {V0 V1 V2 V3 : Value} {k : Nat} {f : Bool} {vals : Nat → Value}
theorem JCu.call (h : JCu W0 B hb r ab X c s k0 k1 k2 k3 V0 V1 V2 V3 k f W vals) (hk : k < 4) (h0 : W0.heap.size ≤ hb) (h1 : hb < r) (h2 : r < ab) {u : Value} (hv : vals k = u) {cs' : Array Value} (hc : Cur W' B ab 0 102 cs' (cuK c k0 k1 k2 k3 (k + 1))) (hg : W.grownBy W' (some ab))
    (hs : W'.cell? ⟨ab, 0, none⟩ = some (svK s k0 k1 k2 k3 (k + 1)).v) : JCu W0 B hb r ab X c s k0 k1 k2 k3 V0 V1 V2 V3 (k + 1) f W' (upd vals k u) := by
  rw [upd_same hv]
  refine ⟨below_grown h.below hg (by omega), h.hdr.grown hg (by intro e; injection e with e; omega), h.res.grown hg (by intro e; injection e with e; omega), ⟨cs', hc⟩, hs, h.fix, fun e => by omega, fun hf => ?_⟩
  obtain ⟨q, q1, q2, q3⟩ := h.obj hf
  rw [if_neg (by omega)] at q3
  exact ⟨q, q1, q2, by rw [if_neg (by omega)]; exact q3.grown hg (by intro e; injection e with e; omega)⟩
theorem JCu.new (h : JCu W0 B hb r ab X c s k0 k1 k2 k3 V0 V1 V2 V3 k false W vals) : JCu W0 B hb r ab X c s k0 k1 k2 k3 V0 V1 V2 V3 k true (W.alloc (.cells #[.slice none 0 0, .nilIface, .slice none 0 0, .nilIface, .slice none 0 0, .nilIface, .slice none 0 0, .nilIface, .slice none 0 0] 104)) (upd vals 5 (.pointer (some ⟨W.heap.size, 0, none⟩))) := by
  have hk : k ≠ 5 := fun e => by have := h.ord e; cases this
  obtain ⟨cs, hc⟩ := h.cur
  have hg : ∀ row, W.grownBy (W.alloc (.cells #[.slice none 0 0, .nilIface, .slice none 0 0, .nilIface, .slice none 0 0, .nilIface, .slice none 0 0, .nilIface, .slice none 0 0] 104)) row := fun row => ⟨rfl, rfl, rfl, by simp, fun i hi _ => Below.heap_alloc W _ i hi⟩
  refine ⟨h.below.alloc h.below.size _, h.hdr.alloc _, h.res.alloc _, ⟨cs, hc.has.alloc _, ?_, hc.base, hc.errs.grown (hg (some W.heap.size)) (Nat.le_trans hc.low hc.size), hc.low⟩, ?_, by simpa [upd] using h.fix, fun _ => rfl, fun _ => ⟨W.heap.size, by simp [upd], hc.has.lt, by rw [if_neg hk]; exact Has.new _ _ _⟩⟩
  · obtain ⟨⟨v, q1, q2⟩, q3⟩ := hc.at_
    exact ⟨⟨v, q1, q2.grown (hg (some W.heap.size)) hc.size hc.size⟩, q3⟩
  · rw [← h.cell]
    exact cell_same (Below.heap_alloc W _ ab hc.has.lt)
end
set_option maxRecDepth 100000 in
set_option maxHeartbeats 8000000 in
theorem cursorsOf_any (W0 : World) (B : Nat) (hB : B ≤ W0.heap.size) (he : Errs W0) (hlow : errTop ≤ B) (a : Option Addr) (n cap : Nat) (l : List Int) (hl : SlV W0 B l (.slice a n cap)) (x0 x1 x2 x3 : Int) (hb : hdOk ⟨x0, x1, x2, x3⟩ = true) :
    Calls Tryz.prog 77 #[.slice a n cap, .agg #[.int .i64 x0, .int .i64 x1, .int .i64 x2, .int .i64 x3]] W0 fun e W => ∃ cs vt, e = .returned (.agg cs) ∧ CursC W B cs vt (cursC l ⟨x0, x1, x2, x3⟩) ∧ Below W0.heap.size W0 W := by
  obtain ⟨⟨b0, b1⟩, ⟨b2, b3⟩, ⟨b4, b5⟩, b6, b7⟩ := hdOk_iff.1 hb
  simp only at b0 b1 b2 b3 b4 b5 b6 b7
  obtain ⟨k0, hk0⟩ : ∃ k : Nat, 6 * x0 = (k : Int) := ⟨(6 * x0).toNat, by omega⟩
  obtain ⟨k1, hk1⟩ : ∃ k : Nat, 6 * x1 = (k : Int) := ⟨(6 * x1).toNat, by omega⟩
  obtain ⟨k2, hk2⟩ : ∃ k : Nat, 5 * x2 = (k : Int) := ⟨(5 * x2).toNat, by omega⟩
  obtain ⟨k3, rfl⟩ := Int.eq_ofNat_of_zero_le (show 0 ≤ x3 by omega)
  have r0 : IntKind.i64.wrap (6 * x0) = (k0 : Int) := by rw [hk0]; exact IntWalk.i64_in _ (by omega)
  have r1 : IntKind.i64.wrap (6 * x1) = (k1 : Int) := by rw [hk1]; exact IntWalk.i64_in _ (by omega)
  have r2 : IntKind.i64.wrap (5 * x2) = (k2 : Int) := by rw [hk2]; exact IntWalk.i64_in _ (by omega)
  obtain ⟨⟨a0, n0, c0⟩, h0⟩ : ∃ t, (svK ⟨a, n, cap⟩ k0 k1 k2 k3 0).cut k0 = t := ⟨_, rfl⟩
  obtain ⟨⟨a1, n1, c1⟩, h1⟩ : ∃ t, (svK ⟨a, n, cap⟩ k0 k1 k2 k3 1).cut k1 = t := ⟨_, rfl⟩
  obtain ⟨⟨a2, n2, c2⟩, h2⟩ : ∃ t, (svK ⟨a, n, cap⟩ k0 k1 k2 k3 2).cut k2 = t := ⟨_, rfl⟩
  obtain ⟨⟨a3, n3, c3⟩, h3⟩ : ∃ t, (svK ⟨a, n, cap⟩ k0 k1 k2 k3 3).cut k3 = t := ⟨_, rfl⟩
  obtain ⟨⟨a4, n4, c4⟩, h4⟩ : ∃ t, svK ⟨a, n, cap⟩ k0 k1 k2 k3 4 = t := ⟨_, rfl⟩
  have q0 : SlV W0 B ((⟨l, false⟩ : Cu).cut k0) (.slice a0 n0 c0) := by have := Sv.holds_cut (c := ⟨l, false⟩) (s := ⟨a, n, cap⟩) hl k0; rw [show (⟨a, n, cap⟩ : Sv).cut k0 = ⟨a0, n0, c0⟩ from h0] at this; exact this
  have p1 := Sv.holds_past (c := ⟨l, false⟩) (s := ⟨a, n, cap⟩) hl k0
  have q1 : SlV W0 B (((⟨l, false⟩ : Cu).past k0).cut k1) (.slice a1 n1 c1) := by have := Sv.holds_cut p1 k1; rw [show ((⟨a, n, cap⟩ : Sv).past k0).cut k1 = ⟨a1, n1, c1⟩ from h1] at this; exact this
  have p2 := Sv.holds_past p1 k1
  have q2 : SlV W0 B ((((⟨l, false⟩ : Cu).past k0).past k1).cut k2) (.slice a2 n2 c2) := by have := Sv.holds_cut p2 k2; rw [show (((⟨a, n, cap⟩ : Sv).past k0).past k1).cut k2 = ⟨a2, n2, c2⟩ from h2] at this; exact this
  have p3 := Sv.holds_past p2 k2
  have q3 : SlV W0 B (((((⟨l, false⟩ : Cu).past k0).past k1).past k2).cut k3) (.slice a3 n3 c3) := by have := Sv.holds_cut p3 k3; rw [show ((((⟨a, n, cap⟩ : Sv).past k0).past k1).past k2).cut k3 = ⟨a3, n3, c3⟩ from h3] at this; exact this
  have HQ := hidden (And.intro q0 (And.intro q1 (And.intro q2 q3)))
  have hc3 : cursC l ⟨x0, x1, x2, (k3 : Int)⟩ = ⟨⟨(⟨l, false⟩ : Cu).cut k0, false⟩, ⟨((⟨l, false⟩ : Cu).past k0).cut k1, false⟩, ⟨(((⟨l, false⟩ : Cu).past k0).past k1).cut k2, false⟩, (((⟨l, false⟩ : Cu).past k0).past k1).past k2 |>.past k3, ((((⟨l, false⟩ : Cu).past k0).past k1).past k2).cut k3⟩ := by
    unfold cursC
    simp only [hk0, hk1, hk2, Int.toNat_natCast]
  have HC3 := hidden hc3
  have H0 := hidden h0
  have H1 := hidden h1
  have H2 := hidden h2
  have H3 := hidden h3
  have H4 := hidden h4
  have HK : Hid (k0 ≤ 9223372036854775807 ∧ k1 ≤ 9223372036854775807 ∧ k2 ≤ 9223372036854775807 ∧ k3 ≤ 9223372036854775807) := ⟨by omega, by omega, by omega, by omega⟩
  have HLOW := hidden hB
  have hJ : Hid (JCu W0 B W0.heap.size (W0.heap.size + 1) (W0.heap.size + 1 + 1) #[.int .i64 x0, .int .i64 x1, .int .i64 x2, .int .i64 (k3 : Int)] ⟨l, false⟩ ⟨a, n, cap⟩ k0 k1 k2 k3 (.slice a0 n0 c0) (.slice a1 n1 c1) (.slice a2 n2 c2) (.slice a3 n3 c3) 0 false ((((W0.alloc (.cells #[.int .i64 x0, .int .i64 x1, .int .i64 x2, .int .i64 (k3 : Int)] 60)).alloc (.cells #[.slice none 0 0, .nilIface, .slice none 0 0, .nilIface, .slice none 0 0, .nilIface, .slice none 0 0, .nilIface, .slice none 0 0] 104)).alloc (.cells #[.slice a n cap, .nilIface] 102)).drew) fun i => if i = 0 then .slice a0 n0 c0 else if i = 1 then .slice a1 n1 c1 else if i = 2 then .slice a2 n2 c2 else .slice a3 n3 c3) := by
    have hw : ∀ o1 o2 o3 : Obj, Below W0.heap.size W0 (((W0.alloc o1).alloc o2).alloc o3) := fun o1 o2 o3 => (((Below.refl _ _).alloc (Nat.le_refl _) _).alloc (by simp) _).alloc (by simp; omega) _
    have hs : ∀ (w : World) (o : Obj), (w.alloc o).heap.size = w.heap.size + 1 := fun w o => by simp
    refine ⟨(hw _ _ _).drew, ((Has.new _ _ _).alloc _).alloc _, ?_, ⟨#[.slice a n cap, .nilIface], ?_, ⟨⟨_, rfl, ?_⟩, ⟨_, rfl, rfl⟩⟩, by omega, (he.below (hw _ _ _) (Nat.le_trans hlow hB)).below (B := errTop) ⟨rfl, rfl, rfl, Nat.le_refl _, fun _ _ => rfl⟩ (Nat.le_refl _), hlow⟩, ?_, ⟨rfl, rfl, rfl, rfl⟩, (fun e => absurd e (by decide)), (fun e => absurd e (by decide))⟩
    · have := (Has.new (W0.alloc (.cells #[.int .i64 x0, .int .i64 x1, .int .i64 x2, .int .i64 (k3 : Int)] 60)) 104 #[.slice none 0 0, .nilIface, .slice none 0 0, .nilIface, .slice none 0 0, .nilIface, .slice none 0 0, .nilIface, .slice none 0 0]).alloc (.cells #[.slice a n cap, .nilIface] 102)
      rw [hs] at this; exact this
    · have := Has.new ((W0.alloc (.cells #[.int .i64 x0, .int .i64 x1, .int .i64 x2, .int .i64 (k3 : Int)] 60)).alloc (.cells #[.slice none 0 0, .nilIface, .slice none 0 0, .nilIface, .slice none 0 0, .nilIface, .slice none 0 0, .nilIface, .slice none 0 0] 104)) 102 #[.slice a n cap, .nilIface]
      rw [hs, hs] at this; exact this
    · exact hl.below ((hw _ _ _).drew.mono hB)
    · have := (Has.new ((W0.alloc (.cells #[.int .i64 x0, .int .i64 x1, .int .i64 x2, .int .i64 (k3 : Int)] 60)).alloc (.cells #[.slice none 0 0, .nilIface, .slice none 0 0, .nilIface, .slice none 0 0, .nilIface, .slice none 0 0, .nilIface, .slice none 0 0] 104)) 102 #[.slice a n cap, .nilIface]).cell 0
      rw [hs, hs] at this; exact this
  clear he hlow hl hb b0 b1 b2 b3 b4 b5 b6 b7 hk0 hk1 hk2 h0 h1 h2 h3 h4 q0 q1 q2 q3 p1 p2 p3 hc3 hB
  go_enter Tryz.func77, Tryz.ntmps77
  go_upto_region 2 with fail
  refine wp_region_free (m := 5) (js := [.quiet (.pointer (some ⟨W0.heap.size, 0, none⟩)) 0 5, .quiet (.int .i64 x0) 0 5, .quiet (.int .i64 (k0 : Int)) 0 5, .chain 0 false, .quiet (.agg #[.slice a0 n0 c0, .nilIface]) 0 5, .quiet (.pointer (some ⟨W0.heap.size, 1, none⟩)) 0 5, .quiet (.int .i64 x1) 0 5, .quiet (.int .i64 (k1 : Int)) 0 5, .chain 1 false, .quiet (.agg #[.slice a1 n1 c1, .nilIface]) 0 5, .quiet (.pointer (some ⟨W0.heap.size, 2, none⟩)) 0 5, .quiet (.int .i64 x2) 0 5, .quiet (.int .i64 (k2 : Int)) 0 5, .chain 2 false, .quiet (.agg #[.slice a2 n2 c2, .nilIface]) 0 5, .quiet (.pointer (some ⟨W0.heap.size, 3, none⟩)) 0 5, .quiet (.int .i64 (k3 : Int)) 0 5, .chain 3 false, .quiet (.agg #[.slice a0 n0 c0, .nilIface, .slice a1 n1 c1, .nilIface, .slice a2 n2 c2, .nilIface, .slice none 0 0, .nilIface, .slice a3 n3 c3]) 0 5, .free 5, .chain 4 true]) (by kernel_rfl) (JCu W0 B W0.heap.size (W0.heap.size + 1) (W0.heap.size + 1 + 1) #[.int .i64 x0, .int .i64 x1, .int .i64 x2, .int .i64 (k3 : Int)] ⟨l, false⟩ ⟨a, n, cap⟩ k0 k1 k2 k3 (.slice a0 n0 c0) (.slice a1 n1 c1) (.slice a2 n2 c2) (.slice a3 n3 c3)) (by kernel_rfl) (by kernel_rfl) ⟨_, hJ.out⟩ (fun vals => ?_) ?_
  · show SeqX _ _ _ _ _ _ _
    refine ⟨fun kk hlo hhi ff W hW => ?_, ?_⟩
    · unfold Oper.wp
      simp [go_sem]
      try exact ⟨_, rfl, rfl⟩
    simp only [Act.put, JobX.val, pA, pB, pC]
    refine ⟨fun kk hlo hhi ff W hW => ?_, ?_⟩
    · have hx : W.cell? ⟨W0.heap.size, 0, none⟩ = some (.int .i64 x0) := hW.hdr.cell 0
      unfold Oper.wp
      simp [go_sem, hx]
      try exact ⟨_, rfl, rfl⟩
    simp only [Act.put, JobX.val, pA, pB, pC]
    refine ⟨fun kk hlo hhi ff W hW => ?_, ?_⟩
    · unfold Oper.wp
      simp [go_sem, r0]
      try exact ⟨_, rfl, rfl⟩
    simp only [Act.put, JobX.val, pA, pB, pC]
    refine ⟨fun ff W hwt hW => ?_, ?_⟩
    · obtain ⟨cs, hc⟩ := hW.cur
      unfold Oper.wp
      simp [go_sem]
      refine (take_any W B (W0.heap.size + 1 + 1) 0 _ cs _ hc k0 (by have := HK.out; omega)).mono ?_
      rintro e w' ⟨-, hd, cs', ht⟩
      obtain ⟨rfl, hs⟩ := hd _ hW.cell
      rw [H0.out]
      have hN : JCu W0 B W0.heap.size (W0.heap.size + 1) (W0.heap.size + 1 + 1) #[.int .i64 x0, .int .i64 x1, .int .i64 x2, .int .i64 (k3 : Int)] ⟨l, false⟩ ⟨a, n, cap⟩ k0 k1 k2 k3 (.slice a0 n0 c0) (.slice a1 n1 c1) (.slice a2 n2 c2) (.slice a3 n3 c3) 1 ff w' (upd vals 0 (.slice a0 n0 c0)) := hW.call (by decide) (Nat.le_refl _) (by omega) (by omega) (by have := hW.fix; simp_all) ht.cur ht.grown hs
      first | exact hN | exact ⟨_, rfl, hN⟩ | exact ⟨_, hN⟩
    simp only [Act.put, JobX.val, pA, pB, pC]
    refine ⟨fun kk hlo hhi ff W hW => ?_, ?_⟩
    · obtain ⟨y0, y1, y2, y3⟩ := hW.fix
      unfold Oper.wp
      simp [go_sem, y0]
      try exact ⟨_, rfl, rfl⟩
    simp only [Act.put, JobX.val, pA, pB, pC]
    refine ⟨fun kk hlo hhi ff W hW => ?_, ?_⟩
    · unfold Oper.wp
      simp [go_sem]
      try exact ⟨_, rfl, rfl⟩
    simp only [Act.put, JobX.val, pA, pB, pC]
    refine ⟨fun kk hlo hhi ff W hW => ?_, ?_⟩
    · have hx : W.cell? ⟨W0.heap.size, 1, none⟩ = some (.int .i64 x1) := hW.hdr.cell 1
      unfold Oper.wp
      simp [go_sem, hx]
      try exact ⟨_, rfl, rfl⟩
    simp only [Act.put, JobX.val, pA, pB, pC]
    refine ⟨fun kk hlo hhi ff W hW => ?_, ?_⟩
    · unfold Oper.wp
      simp [go_sem, r1]
      try exact ⟨_, rfl, rfl⟩
    simp only [Act.put, JobX.val, pA, pB, pC]
    refine ⟨fun ff W hwt hW => ?_, ?_⟩
    · obtain ⟨cs, hc⟩ := hW.cur
      unfold Oper.wp
      simp [go_sem]
      refine (take_any W B (W0.heap.size + 1 + 1) 0 _ cs _ hc k1 (by have := HK.out; omega)).mono ?_
      rintro e w' ⟨-, hd, cs', ht⟩
      obtain ⟨rfl, hs⟩ := hd _ hW.cell
      rw [H1.out]
      have hN : JCu W0 B W0.heap.size (W0.heap.size + 1) (W0.heap.size + 1 + 1) #[.int .i64 x0, .int .i64 x1, .int .i64 x2, .int .i64 (k3 : Int)] ⟨l, false⟩ ⟨a, n, cap⟩ k0 k1 k2 k3 (.slice a0 n0 c0) (.slice a1 n1 c1) (.slice a2 n2 c2) (.slice a3 n3 c3) 2 ff w' (upd vals 1 (.slice a1 n1 c1)) := hW.call (by decide) (Nat.le_refl _) (by omega) (by omega) (by have := hW.fix; simp_all) ht.cur ht.grown hs
      first | exact hN | exact ⟨_, rfl, hN⟩ | exact ⟨_, hN⟩
    simp only [Act.put, JobX.val, pA, pB, pC]
    refine ⟨fun kk hlo hhi ff W hW => ?_, ?_⟩
    · obtain ⟨y0, y1, y2, y3⟩ := hW.fix
      unfold Oper.wp
      simp [go_sem, y1]
      try exact ⟨_, rfl, rfl⟩
    simp only [Act.put, JobX.val, pA, pB, pC]
    refine ⟨fun kk hlo hhi ff W hW => ?_, ?_⟩
    · unfold Oper.wp
      simp [go_sem]
      try exact ⟨_, rfl, rfl⟩
    simp only [Act.put, JobX.val, pA, pB, pC]
    refine ⟨fun kk hlo hhi ff W hW => ?_, ?_⟩
    · have hx : W.cell? ⟨W0.heap.size, 2, none⟩ = some (.int .i64 x2) := hW.hdr.cell 2
      unfold Oper.wp
      simp [go_sem, hx]
      try exact ⟨_, rfl, rfl⟩
    simp only [Act.put, JobX.val, pA, pB, pC]
    refine ⟨fun kk hlo hhi ff W hW => ?_, ?_⟩
    · unfold Oper.wp
      simp [go_sem, r2]
      try exact ⟨_, rfl, rfl⟩
    simp only [Act.put, JobX.val, pA, pB, pC]
    refine ⟨fun ff W hwt hW => ?_, ?_⟩
    · obtain ⟨cs, hc⟩ := hW.cur
      unfold Oper.wp
      simp [go_sem]
      refine (take_any W B (W0.heap.size + 1 + 1) 0 _ cs _ hc k2 (by have := HK.out; omega)).mono ?_
      rintro e w' ⟨-, hd, cs', ht⟩
      obtain ⟨rfl, hs⟩ := hd _ hW.cell
      rw [H2.out]
      have hN : JCu W0 B W0.heap.size (W0.heap.size + 1) (W0.heap.size + 1 + 1) #[.int .i64 x0, .int .i64 x1, .int .i64 x2, .int .i64 (k3 : Int)] ⟨l, false⟩ ⟨a, n, cap⟩ k0 k1 k2 k3 (.slice a0 n0 c0) (.slice a1 n1 c1) (.slice a2 n2 c2) (.slice a3 n3 c3) 3 ff w' (upd vals 2 (.slice a2 n2 c2)) := hW.call (by decide) (Nat.le_refl _) (by omega) (by omega) (by have := hW.fix; simp_all) ht.cur ht.grown hs
      first | exact hN | exact ⟨_, rfl, hN⟩ | exact ⟨_, hN⟩
    simp only [Act.put, JobX.val, pA, pB, pC]
    refine ⟨fun kk hlo hhi ff W hW => ?_, ?_⟩
    · obtain ⟨y0, y1, y2, y3⟩ := hW.fix
      unfold Oper.wp
      simp [go_sem, y2]
      try exact ⟨_, rfl, rfl⟩
    simp only [Act.put, JobX.val, pA, pB, pC]
    refine ⟨fun kk hlo hhi ff W hW => ?_, ?_⟩
    · unfold Oper.wp
      simp [go_sem]
      try exact ⟨_, rfl, rfl⟩
    simp only [Act.put, JobX.val, pA, pB, pC]
    refine ⟨fun kk hlo hhi ff W hW => ?_, ?_⟩
    · have hx : W.cell? ⟨W0.heap.size, 3, none⟩ = some (.int .i64 (k3 : Int)) := hW.hdr.cell 3
      unfold Oper.wp
      simp [go_sem, hx]
      try exact ⟨_, rfl, rfl⟩
    simp only [Act.put, JobX.val, pA, pB, pC]
    refine ⟨fun ff W hwt hW => ?_, ?_⟩
    · obtain ⟨cs, hc⟩ := hW.cur
      unfold Oper.wp
      simp [go_sem]
      refine (take_any W B (W0.heap.size + 1 + 1) 0 _ cs _ hc k3 (by have := HK.out; omega)).mono ?_
      rintro e w' ⟨-, hd, cs', ht⟩
      obtain ⟨rfl, hs⟩ := hd _ hW.cell
      rw [H3.out]
      have hN : JCu W0 B W0.heap.size (W0.heap.size + 1) (W0.heap.size + 1 + 1) #[.int .i64 x0, .int .i64 x1, .int .i64 x2, .int .i64 (k3 : Int)] ⟨l, false⟩ ⟨a, n, cap⟩ k0 k1 k2 k3 (.slice a0 n0 c0) (.slice a1 n1 c1) (.slice a2 n2 c2) (.slice a3 n3 c3) 4 ff w' (upd vals 3 (.slice a3 n3 c3)) := hW.call (by decide) (Nat.le_refl _) (by omega) (by omega) (by have := hW.fix; simp_all) ht.cur ht.grown hs
      first | exact hN | exact ⟨_, rfl, hN⟩ | exact ⟨_, hN⟩
    simp only [Act.put, JobX.val, pA, pB, pC]
    refine ⟨fun kk hlo hhi ff W hW => ?_, ?_⟩
    · obtain ⟨y0, y1, y2, y3⟩ := hW.fix
      unfold Oper.wp
      simp [go_sem, y3]
      try exact ⟨_, rfl, rfl⟩
    simp only [Act.put, JobX.val, pA, pB, pC]
    refine ⟨fun kk W hW => ?_, ?_⟩
    · have hN := hW.new
      unfold Oper.wp
      simp [go_sem]
      first | exact hN | exact ⟨_, rfl, hN⟩ | exact ⟨_, hN⟩
    simp only [Act.put, JobX.val, pA, pB, pC]
    refine ⟨fun ff W hwt hW => ?_, ?_⟩
    · obtain rfl := hwt rfl
      obtain ⟨q, hv5, hq, hh⟩ := hW.obj rfl
      rw [if_neg (by decide)] at hh
      have f0 := hh.free
      have c0' := hh.cell
      have hN : JCu W0 B W0.heap.size (W0.heap.size + 1) (W0.heap.size + 1 + 1) #[.int .i64 x0, .int .i64 x1, .int .i64 x2, .int .i64 (k3 : Int)] ⟨l, false⟩ ⟨a, n, cap⟩ k0 k1 k2 k3 (.slice a0 n0 c0) (.slice a1 n1 c1) (.slice a2 n2 c2) (.slice a3 n3 c3) 5 true (((((((((W.setCell ⟨q, 0, none⟩ (.slice a0 n0 c0)).setCell ⟨q, 1, none⟩ (.nilIface)).setCell ⟨q, 2, none⟩ (.slice a1 n1 c1)).setCell ⟨q, 3, none⟩ (.nilIface)).setCell ⟨q, 4, none⟩ (.slice a2 n2 c2)).setCell ⟨q, 5, none⟩ (.nilIface)).setCell ⟨q, 6, none⟩ (.slice none 0 0)).setCell ⟨q, 7, none⟩ (.nilIface)).setCell ⟨q, 8, none⟩ (.slice a3 n3 c3)) (upd vals 4 (vals 4)) := by
        rw [upd_same rfl]
        have gp : ∀ (w : World) i v, w.grownBy (w.setCell ⟨q, i, none⟩ v) (some q) := fun w i v => only_put' i v
        have hg : W.grownBy (((((((((W.setCell ⟨q, 0, none⟩ (.slice a0 n0 c0)).setCell ⟨q, 1, none⟩ (.nilIface)).setCell ⟨q, 2, none⟩ (.slice a1 n1 c1)).setCell ⟨q, 3, none⟩ (.nilIface)).setCell ⟨q, 4, none⟩ (.slice a2 n2 c2)).setCell ⟨q, 5, none⟩ (.nilIface)).setCell ⟨q, 6, none⟩ (.slice none 0 0)).setCell ⟨q, 7, none⟩ (.nilIface)).setCell ⟨q, 8, none⟩ (.slice a3 n3 c3)) (some q) := (grown_trans (grown_trans (grown_trans (grown_trans (grown_trans (grown_trans (grown_trans (grown_trans (gp _ _ _) (gp _ _ _)) (gp _ _ _)) (gp _ _ _)) (gp _ _ _)) (gp _ _ _)) (gp _ _ _)) (gp _ _ _)) (gp _ _ _))
        obtain ⟨cs, hc⟩ := hW.cur
        refine ⟨below_grown hW.below hg (by omega), hW.hdr.grown hg (by intro e; injection e with e; omega), hW.res.grown hg (by intro e; injection e with e; omega), ⟨cs, hc.has.grown hg (by intro e; injection e with e; omega), ?_, hc.base, hc.errs.grown hg (by have := hc.low; have := hc.base; omega), hc.low⟩, ?_, hW.fix, fun _ => rfl, fun _ => ⟨q, hv5, hq, ?_⟩⟩
        · obtain ⟨⟨v, u1, u2⟩, u3⟩ := hc.at_
          exact ⟨⟨v, u1, u2.grown hg (by have := hc.base; omega) hc.size⟩, u3⟩
        · have hcl := hW.cell
          have e : svK ⟨a, n, cap⟩ k0 k1 k2 k3 5 = svK ⟨a, n, cap⟩ k0 k1 k2 k3 4 := rfl
          rw [e, ← hcl]
          exact cell_same (hg.block (W0.heap.size + 1 + 1) hc.has.lt (by intro e; injection e with e; omega))
        · rw [if_pos rfl]
          have h9 := (((((((((hh.put 0 (.slice a0 n0 c0)).put 1 (.nilIface)).put 2 (.slice a1 n1 c1)).put 3 (.nilIface)).put 4 (.slice a2 n2 c2)).put 5 (.nilIface)).put 6 (.slice none 0 0)).put 7 (.nilIface)).put 8 (.slice a3 n3 c3))
          simpa using h9
      rw [hv5]
      clear hh hW hv5
      unfold Oper.wp
      simp [go_sem, c0', f0]
      exact ⟨_, hN⟩
    simp only [Act.put]
    exact trivial
  · intro ff W vals hfree hJ1
    obtain ⟨q, hv5, hq, hh⟩ := hJ1.obj (hfree rfl)
    rw [if_pos rfl] at hh
    obtain ⟨cs, hc⟩ := hJ1.cur
    obtain ⟨e4, he4, hev⟩ := hc.cell1
    rcases errV_cases hev with rfl | ⟨te, ue, rfl⟩
    · have hcell : W.cell? ⟨W0.heap.size + 1 + 1, 0, none⟩ = some (.slice a4 n4 c4) := by
        have h := hJ1.cell
        rw [show svK ⟨a, n, cap⟩ k0 k1 k2 k3 5 = svK ⟨a, n, cap⟩ k0 k1 k2 k3 4 from rfl, H4.out] at h
        exact h
      have he4' : W.cell? ⟨W0.heap.size + 1 + 1, 1, none⟩ = some (.nilIface) := he4
      clear he4
      have hsl : SlV W B ((((⟨l, false⟩ : Cu).past k0).past k1).past k2 |>.past k3).left (.slice a4 n4 c4) := by
        obtain ⟨v, u1, u2⟩ := hc.at_.left
        have := (hc.has.cell 0).trans u1
        rw [hcell] at this
        injection this with this
        rw [this]
        exact u2
      have hev : ErrV ((((⟨l, false⟩ : Cu).past k0).past k1).past k2 |>.past k3).bad (.nilIface) := hev
      have hr := hJ1.res
      have hbel := hJ1.below
      have hne : W0.heap.size + 1 ≠ q := by omega
      have HLQ := hidden (show W0.heap.size ≤ q by omega)
      have W2h : Has ((W.setCell ⟨q, 6, none⟩ (.slice a4 n4 c4)).setCell ⟨q, 7, none⟩ (.nilIface)) q 104 #[.slice a0 n0 c0, .nilIface, .slice a1 n1 c1, .nilIface, .slice a2 n2 c2, .nilIface, .slice a4 n4 c4, .nilIface, .slice a3 n3 c3] := by
        have := (hh.put 6 (.slice a4 n4 c4)).put 7 (.nilIface)
        simpa using this
      have hr2 : Has ((W.setCell ⟨q, 6, none⟩ (.slice a4 n4 c4)).setCell ⟨q, 7, none⟩ (.nilIface)) (W0.heap.size + 1) 104 #[.slice none 0 0, .nilIface, .slice none 0 0, .nilIface, .slice none 0 0, .nilIface, .slice none 0 0, .nilIface, .slice none 0 0] := (hr.away hne _).away hne _
      have hb2 : Below W0.heap.size W0 ((W.setCell ⟨q, 6, none⟩ (.slice a4 n4 c4)).setCell ⟨q, 7, none⟩ (.nilIface)) := (hbel.setCell (by show _ ≤ q; omega) _).setCell (by show _ ≤ q; omega) _
      have cq := hh.cell
      have fq := hh.free
      have HSL := hidden hsl
      have HEV := hidden hev
      have HBB := hidden hbel
      have HW2 := hidden W2h
      have HR2 := hidden hr2
      have HB2 := hidden hb2
      simp only [putAll, List.map_cons, List.map_nil, JobX.val, Act.put, pA, pB, pC]
      rw [hv5]
      clear hh hc hev hsl hr hbel hJ1 hfree hJ hv5 W2h hr2 hb2 r0 r1 r2 hq
      go_upto_region 4 with fail
      obtain ⟨W2, hW2⟩ : ∃ W2, (W.setCell ⟨q, 6, none⟩ (.slice a4 n4 c4)).setCell ⟨q, 7, none⟩ (.nilIface) = W2 := ⟨_, rfl⟩
      rw [hW2] at HW2 HR2 HB2 ⊢
      have c9 := HW2.out.cell
      have cq0 : W2.cell? ⟨q, 0, none⟩ = some (.slice a0 n0 c0) := c9 0
      have cq1 : W2.cell? ⟨q, 1, none⟩ = some (.nilIface) := c9 1
      have cq2 : W2.cell? ⟨q, 2, none⟩ = some (.slice a1 n1 c1) := c9 2
      have cq3 : W2.cell? ⟨q, 3, none⟩ = some (.nilIface) := c9 3
      have cq4 : W2.cell? ⟨q, 4, none⟩ = some (.slice a2 n2 c2) := c9 4
      have cq5 : W2.cell? ⟨q, 5, none⟩ = some (.nilIface) := c9 5
      have cq6 : W2.cell? ⟨q, 6, none⟩ = some (.slice a4 n4 c4) := c9 6
      have cq7 : W2.cell? ⟨q, 7, none⟩ = some (.nilIface) := c9 7
      have cq8 : W2.cell? ⟨q, 8, none⟩ = some (.slice a3 n3 c3) := c9 8
      clear c9
      have cr := HR2.out.cell
      have fr := HR2.out.free
      obtain ⟨rr, hrr⟩ : ∃ rr, W0.heap.size + 1 = rr := ⟨_, rfl⟩
      have hlr : W0.heap.size ≤ rr := by omega
      rw [hrr] at cr fr HR2 ⊢
      have gp : ∀ (w : World) i v, w.grownBy (w.setCell ⟨rr, i, none⟩ v) (some rr) := fun w i v => only_put' i v
      have hg : W2.grownBy (((((((((W2.setCell ⟨rr, 0, none⟩ (.slice a0 n0 c0)).setCell ⟨rr, 1, none⟩ (.nilIface)).setCell ⟨rr, 2, none⟩ (.slice a1 n1 c1)).setCell ⟨rr, 3, none⟩ (.nilIface)).setCell ⟨rr, 4, none⟩ (.slice a2 n2 c2)).setCell ⟨rr, 5, none⟩ (.nilIface)).setCell ⟨rr, 6, none⟩ (.slice a4 n4 c4)).setCell ⟨rr, 7, none⟩ (.nilIface)).setCell ⟨rr, 8, none⟩ (.slice a3 n3 c3)) (some rr) := (grown_trans (grown_trans (grown_trans (grown_trans (grown_trans (grown_trans (grown_trans (grown_trans (gp _ _ _) (gp _ _ _)) (gp _ _ _)) (gp _ _ _)) (gp _ _ _)) (gp _ _ _)) (gp _ _ _)) (gp _ _ _)) (gp _ _ _))
      have HF : Hid (∃ cs vt, Ending.returned (.agg #[.slice a0 n0 c0, .nilIface, .slice a1 n1 c1, .nilIface, .slice a2 n2 c2, .nilIface, .slice a4 n4 c4, .nilIface, .slice a3 n3 c3]) = .returned (.agg cs) ∧ CursC (((((((((W2.setCell ⟨rr, 0, none⟩ (.slice a0 n0 c0)).setCell ⟨rr, 1, none⟩ (.nilIface)).setCell ⟨rr, 2, none⟩ (.slice a1 n1 c1)).setCell ⟨rr, 3, none⟩ (.nilIface)).setCell ⟨rr, 4, none⟩ (.slice a2 n2 c2)).setCell ⟨rr, 5, none⟩ (.nilIface)).setCell ⟨rr, 6, none⟩ (.slice a4 n4 c4)).setCell ⟨rr, 7, none⟩ (.nilIface)).setCell ⟨rr, 8, none⟩ (.slice a3 n3 c3)) B cs vt (cursC l ⟨x0, x1, x2, (k3 : Int)⟩) ∧ Below W0.heap.size W0 (((((((((W2.setCell ⟨rr, 0, none⟩ (.slice a0 n0 c0)).setCell ⟨rr, 1, none⟩ (.nilIface)).setCell ⟨rr, 2, none⟩ (.slice a1 n1 c1)).setCell ⟨rr, 3, none⟩ (.nilIface)).setCell ⟨rr, 4, none⟩ (.slice a2 n2 c2)).setCell ⟨rr, 5, none⟩ (.nilIface)).setCell ⟨rr, 6, none⟩ (.slice a4 n4 c4)).setCell ⟨rr, 7, none⟩ (.nilIface)).setCell ⟨rr, 8, none⟩ (.slice a3 n3 c3))) := by
        obtain ⟨q0, q1, q2, q3⟩ := HQ.out
        have hb3 : Below W0.heap.size W0 (((((((((W2.setCell ⟨rr, 0, none⟩ (.slice a0 n0 c0)).setCell ⟨rr, 1, none⟩ (.nilIface)).setCell ⟨rr, 2, none⟩ (.slice a1 n1 c1)).setCell ⟨rr, 3, none⟩ (.nilIface)).setCell ⟨rr, 4, none⟩ (.slice a2 n2 c2)).setCell ⟨rr, 5, none⟩ (.nilIface)).setCell ⟨rr, 6, none⟩ (.slice a4 n4 c4)).setCell ⟨rr, 7, none⟩ (.nilIface)).setCell ⟨rr, 8, none⟩ (.slice a3 n3 c3)) := below_grown HB2.out hg hlr
        have hb4 := hb3.mono HLOW.out
        have hb5 : Below B W (((((((((W2.setCell ⟨rr, 0, none⟩ (.slice a0 n0 c0)).setCell ⟨rr, 1, none⟩ (.nilIface)).setCell ⟨rr, 2, none⟩ (.slice a1 n1 c1)).setCell ⟨rr, 3, none⟩ (.nilIface)).setCell ⟨rr, 4, none⟩ (.slice a2 n2 c2)).setCell ⟨rr, 5, none⟩ (.nilIface)).setCell ⟨rr, 6, none⟩ (.slice a4 n4 c4)).setCell ⟨rr, 7, none⟩ (.nilIface)).setCell ⟨rr, 8, none⟩ (.slice a3 n3 c3)) := ?_
        · refine ⟨#[.slice a0 n0 c0, .nilIface, .slice a1 n1 c1, .nilIface, .slice a2 n2 c2, .nilIface, .slice a4 n4 c4, .nilIface, .slice a3 n3 c3], _, rfl, ⟨rfl, ?_, ?_, ?_, ?_, rfl, ?_⟩, hb3⟩
          · rw [HC3.out]; exact ⟨⟨_, rfl, q0.below hb4⟩, ⟨_, rfl, rfl⟩⟩
          · rw [HC3.out]; exact ⟨⟨_, rfl, q1.below hb4⟩, ⟨_, rfl, rfl⟩⟩
          · rw [HC3.out]; exact ⟨⟨_, rfl, q2.below hb4⟩, ⟨_, rfl, rfl⟩⟩
          · rw [HC3.out]; exact ⟨⟨_, rfl, HSL.out.below hb5⟩, ⟨_, rfl, HEV.out⟩⟩
          · rw [HC3.out]; exact q3.below hb4
        · have h1 : Below B W W2 := by
            rw [← hW2]
            have hq2 : B ≤ q := by have := HLOW.out; have := HLQ.out; omega
            exact ((Below.refl _ _).setCell hq2 _).setCell hq2 _
          exact h1.grown hg (Nat.le_trans HLOW.out HB2.out.size) (fun j e => by injection e with e; have := HLOW.out; omega)
      have HR : Hid (Has (((((((((W2.setCell ⟨rr, 0, none⟩ (.slice a0 n0 c0)).setCell ⟨rr, 1, none⟩ (.nilIface)).setCell ⟨rr, 2, none⟩ (.slice a1 n1 c1)).setCell ⟨rr, 3, none⟩ (.nilIface)).setCell ⟨rr, 4, none⟩ (.slice a2 n2 c2)).setCell ⟨rr, 5, none⟩ (.nilIface)).setCell ⟨rr, 6, none⟩ (.slice a4 n4 c4)).setCell ⟨rr, 7, none⟩ (.nilIface)).setCell ⟨rr, 8, none⟩ (.slice a3 n3 c3)) rr 104 #[.slice a0 n0 c0, .nilIface, .slice a1 n1 c1, .nilIface, .slice a2 n2 c2, .nilIface, .slice a4 n4 c4, .nilIface, .slice a3 n3 c3]) := by
        show Has _ _ _ _
        have := (((((((((HR2.out.put 0 (.slice a0 n0 c0)).put 1 (.nilIface)).put 2 (.slice a1 n1 c1)).put 3 (.nilIface)).put 4 (.slice a2 n2 c2)).put 5 (.nilIface)).put 6 (.slice a4 n4 c4)).put 7 (.nilIface)).put 8 (.slice a3 n3 c3))
        simpa using this
      clear hg gp HW2 HR2 HB2 HBB HSL HEV hcell he4' cq fq hW2 hne hlr
      go_wp2_with fail
      refine bodyPost_ret (results_cell_row rfl _ _ rr 104 #[.slice a0 n0 c0, .nilIface, .slice a1 n1 c1, .nilIface, .slice a2 n2 c2, .nilIface, .slice a4 n4 c4, .nilIface, .slice a3 n3 c3] (0, 0) _ rfl HR.out Tryz.underlying104 rfl (by kernel_rfl)) rfl ?_
      exact HF.out
    · have hcell : W.cell? ⟨W0.heap.size + 1 + 1, 0, none⟩ = some (.slice a4 n4 c4) := by
        have h := hJ1.cell
        rw [show svK ⟨a, n, cap⟩ k0 k1 k2 k3 5 = svK ⟨a, n, cap⟩ k0 k1 k2 k3 4 from rfl, H4.out] at h
        exact h
      have he4' : W.cell? ⟨W0.heap.size + 1 + 1, 1, none⟩ = some (.iface te ue) := he4
      clear he4
      have hsl : SlV W B ((((⟨l, false⟩ : Cu).past k0).past k1).past k2 |>.past k3).left (.slice a4 n4 c4) := by
        obtain ⟨v, u1, u2⟩ := hc.at_.left
        have := (hc.has.cell 0).trans u1
        rw [hcell] at this
        injection this with this
        rw [this]
        exact u2
      have hev : ErrV ((((⟨l, false⟩ : Cu).past k0).past k1).past k2 |>.past k3).bad (.iface te ue) := hev
      have hr := hJ1.res
      have hbel := hJ1.below
      have hne : W0.heap.size + 1 ≠ q := by omega
      have HLQ := hidden (show W0.heap.size ≤ q by omega)
      have W2h : Has ((W.setCell ⟨q, 6, none⟩ (.slice a4 n4 c4)).setCell ⟨q, 7, none⟩ (.iface te ue)) q 104 #[.slice a0 n0 c0, .nilIface, .slice a1 n1 c1, .nilIface, .slice a2 n2 c2, .nilIface, .slice a4 n4 c4, .iface te ue, .slice a3 n3 c3] := by
        have := (hh.put 6 (.slice a4 n4 c4)).put 7 (.iface te ue)
        simpa using this
      have hr2 : Has ((W.setCell ⟨q, 6, none⟩ (.slice a4 n4 c4)).setCell ⟨q, 7, none⟩ (.iface te ue)) (W0.heap.size + 1) 104 #[.slice none 0 0, .nilIface, .slice none 0 0, .nilIface, .slice none 0 0, .nilIface, .slice none 0 0, .nilIface, .slice none 0 0] := (hr.away hne _).away hne _
      have hb2 : Below W0.heap.size W0 ((W.setCell ⟨q, 6, none⟩ (.slice a4 n4 c4)).setCell ⟨q, 7, none⟩ (.iface te ue)) := (hbel.setCell (by show _ ≤ q; omega) _).setCell (by show _ ≤ q; omega) _
      have cq := hh.cell
      have fq := hh.free
      have HSL := hidden hsl
      have HEV := hidden hev
      have HBB := hidden hbel
      have HW2 := hidden W2h
      have HR2 := hidden hr2
      have HB2 := hidden hb2
      simp only [putAll, List.map_cons, List.map_nil, JobX.val, Act.put, pA, pB, pC]
      rw [hv5]
      clear hh hc hev hsl hr hbel hJ1 hfree hJ hv5 W2h hr2 hb2 r0 r1 r2 hq
      go_upto_region 4 with fail
      obtain ⟨W2, hW2⟩ : ∃ W2, (W.setCell ⟨q, 6, none⟩ (.slice a4 n4 c4)).setCell ⟨q, 7, none⟩ (.iface te ue) = W2 := ⟨_, rfl⟩
      rw [hW2] at HW2 HR2 HB2 ⊢
      have c9 := HW2.out.cell
      have cq0 : W2.cell? ⟨q, 0, none⟩ = some (.slice a0 n0 c0) := c9 0
      have cq1 : W2.cell? ⟨q, 1, none⟩ = some (.nilIface) := c9 1
      have cq2 : W2.cell? ⟨q, 2, none⟩ = some (.slice a1 n1 c1) := c9 2
      have cq3 : W2.cell? ⟨q, 3, none⟩ = some (.nilIface) := c9 3
      have cq4 : W2.cell? ⟨q, 4, none⟩ = some (.slice a2 n2 c2) := c9 4
      have cq5 : W2.cell? ⟨q, 5, none⟩ = some (.nilIface) := c9 5
      have cq6 : W2.cell? ⟨q, 6, none⟩ = some (.slice a4 n4 c4) := c9 6
      have cq7 : W2.cell? ⟨q, 7, none⟩ = some (.iface te ue) := c9 7
      have cq8 : W2.cell? ⟨q, 8, none⟩ = some (.slice a3 n3 c3) := c9 8
      clear c9
      have cr := HR2.out.cell
      have fr := HR2.out.free
      obtain ⟨rr, hrr⟩ : ∃ rr, W0.heap.size + 1 = rr := ⟨_, rfl⟩
      have hlr : W0.heap.size ≤ rr := by omega
      rw [hrr] at cr fr HR2 ⊢
      have gp : ∀ (w : World) i v, w.grownBy (w.setCell ⟨rr, i, none⟩ v) (some rr) := fun w i v => only_put' i v
      have hg : W2.grownBy (((((((((W2.setCell ⟨rr, 0, none⟩ (.slice a0 n0 c0)).setCell ⟨rr, 1, none⟩ (.nilIface)).setCell ⟨rr, 2, none⟩ (.slice a1 n1 c1)).setCell ⟨rr, 3, none⟩ (.nilIface)).setCell ⟨rr, 4, none⟩ (.slice a2 n2 c2)).setCell ⟨rr, 5, none⟩ (.nilIface)).setCell ⟨rr, 6, none⟩ (.slice a4 n4 c4)).setCell ⟨rr, 7, none⟩ (.iface te ue)).setCell ⟨rr, 8, none⟩ (.slice a3 n3 c3)) (some rr) := (grown_trans (grown_trans (grown_trans (grown_trans (grown_trans (grown_trans (grown_trans (grown_trans (gp _ _ _) (gp _ _ _)) (gp _ _ _)) (gp _ _ _)) (gp _ _ _)) (gp _ _ _)) (gp _ _ _)) (gp _ _ _)) (gp _ _ _))
      have HF : Hid (∃ cs vt, Ending.returned (.agg #[.slice a0 n0 c0, .nilIface, .slice a1 n1 c1, .nilIface, .slice a2 n2 c2, .nilIface, .slice a4 n4 c4, .iface te ue, .slice a3 n3 c3]) = .returned (.agg cs) ∧ CursC (((((((((W2.setCell ⟨rr, 0, none⟩ (.slice a0 n0 c0)).setCell ⟨rr, 1, none⟩ (.nilIface)).setCell ⟨rr, 2, none⟩ (.slice a1 n1 c1)).setCell ⟨rr, 3, none⟩ (.nilIface)).setCell ⟨rr, 4, none⟩ (.slice a2 n2 c2)).setCell ⟨rr, 5, none⟩ (.nilIface)).setCell ⟨rr, 6, none⟩ (.slice a4 n4 c4)).setCell ⟨rr, 7, none⟩ (.iface te ue)).setCell ⟨rr, 8, none⟩ (.slice a3 n3 c3)) B cs vt (cursC l ⟨x0, x1, x2, (k3 : Int)⟩) ∧ Below W0.heap.size W0 (((((((((W2.setCell ⟨rr, 0, none⟩ (.slice a0 n0 c0)).setCell ⟨rr, 1, none⟩ (.nilIface)).setCell ⟨rr, 2, none⟩ (.slice a1 n1 c1)).setCell ⟨rr, 3, none⟩ (.nilIface)).setCell ⟨rr, 4, none⟩ (.slice a2 n2 c2)).setCell ⟨rr, 5, none⟩ (.nilIface)).setCell ⟨rr, 6, none⟩ (.slice a4 n4 c4)).setCell ⟨rr, 7, none⟩ (.iface te ue)).setCell ⟨rr, 8, none⟩ (.slice a3 n3 c3))) := by
        obtain ⟨q0, q1, q2, q3⟩ := HQ.out
        have hb3 : Below W0.heap.size W0 (((((((((W2.setCell ⟨rr, 0, none⟩ (.slice a0 n0 c0)).setCell ⟨rr, 1, none⟩ (.nilIface)).setCell ⟨rr, 2, none⟩ (.slice a1 n1 c1)).setCell ⟨rr, 3, none⟩ (.nilIface)).setCell ⟨rr, 4, none⟩ (.slice a2 n2 c2)).setCell ⟨rr, 5, none⟩ (.nilIface)).setCell ⟨rr, 6, none⟩ (.slice a4 n4 c4)).setCell ⟨rr, 7, none⟩ (.iface te ue)).setCell ⟨rr, 8, none⟩ (.slice a3 n3 c3)) := below_grown HB2.out hg hlr
        have hb4 := hb3.mono HLOW.out
        have hb5 : Below B W (((((((((W2.setCell ⟨rr, 0, none⟩ (.slice a0 n0 c0)).setCell ⟨rr, 1, none⟩ (.nilIface)).setCell ⟨rr, 2, none⟩ (.slice a1 n1 c1)).setCell ⟨rr, 3, none⟩ (.nilIface)).setCell ⟨rr, 4, none⟩ (.slice a2 n2 c2)).setCell ⟨rr, 5, none⟩ (.nilIface)).setCell ⟨rr, 6, none⟩ (.slice a4 n4 c4)).setCell ⟨rr, 7, none⟩ (.iface te ue)).setCell ⟨rr, 8, none⟩ (.slice a3 n3 c3)) := ?_
        · refine ⟨#[.slice a0 n0 c0, .nilIface, .slice a1 n1 c1, .nilIface, .slice a2 n2 c2, .nilIface, .slice a4 n4 c4, .iface te ue, .slice a3 n3 c3], _, rfl, ⟨rfl, ?_, ?_, ?_, ?_, rfl, ?_⟩, hb3⟩
          · rw [HC3.out]; exact ⟨⟨_, rfl, q0.below hb4⟩, ⟨_, rfl, rfl⟩⟩
          · rw [HC3.out]; exact ⟨⟨_, rfl, q1.below hb4⟩, ⟨_, rfl, rfl⟩⟩
          · rw [HC3.out]; exact ⟨⟨_, rfl, q2.below hb4⟩, ⟨_, rfl, rfl⟩⟩
          · rw [HC3.out]; exact ⟨⟨_, rfl, HSL.out.below hb5⟩, ⟨_, rfl, HEV.out⟩⟩
          · rw [HC3.out]; exact q3.below hb4
        · have h1 : Below B W W2 := by
            rw [← hW2]
            have hq2 : B ≤ q := by have := HLOW.out; have := HLQ.out; omega
            exact ((Below.refl _ _).setCell hq2 _).setCell hq2 _
          exact h1.grown hg (Nat.le_trans HLOW.out HB2.out.size) (fun j e => by injection e with e; have := HLOW.out; omega)
      have HR : Hid (Has (((((((((W2.setCell ⟨rr, 0, none⟩ (.slice a0 n0 c0)).setCell ⟨rr, 1, none⟩ (.nilIface)).setCell ⟨rr, 2, none⟩ (.slice a1 n1 c1)).setCell ⟨rr, 3, none⟩ (.nilIface)).setCell ⟨rr, 4, none⟩ (.slice a2 n2 c2)).setCell ⟨rr, 5, none⟩ (.nilIface)).setCell ⟨rr, 6, none⟩ (.slice a4 n4 c4)).setCell ⟨rr, 7, none⟩ (.iface te ue)).setCell ⟨rr, 8, none⟩ (.slice a3 n3 c3)) rr 104 #[.slice a0 n0 c0, .nilIface, .slice a1 n1 c1, .nilIface, .slice a2 n2 c2, .nilIface, .slice a4 n4 c4, .iface te ue, .slice a3 n3 c3]) := by
        show Has _ _ _ _
        have := (((((((((HR2.out.put 0 (.slice a0 n0 c0)).put 1 (.nilIface)).put 2 (.slice a1 n1 c1)).put 3 (.nilIface)).put 4 (.slice a2 n2 c2)).put 5 (.nilIface)).put 6 (.slice a4 n4 c4)).put 7 (.iface te ue)).put 8 (.slice a3 n3 c3))
        simpa using this
      clear hg gp HW2 HR2 HB2 HBB HSL HEV hcell he4' cq fq hW2 hne hlr
      go_wp2_with fail
      refine bodyPost_ret (results_cell_row rfl _ _ rr 104 #[.slice a0 n0 c0, .nilIface, .slice a1 n1 c1, .nilIface, .slice a2 n2 c2, .nilIface, .slice a4 n4 c4, .iface te ue, .slice a3 n3 c3] (0, 0) _ rfl HR.out Tryz.underlying104 rfl (by kernel_rfl)) rfl ?_
      exact HF.out
open Go.RowKit
theorem bytesOf_inj : ∀ {xs ys : List Int}, (∀ x ∈ xs, (Lit.int .u8 x).wf = true) → (∀ x ∈ ys, (Lit.int .u8 x).wf = true) → Lib.bytesOf xs = Lib.bytesOf ys → xs = ys
  | [], [], _, _, _ => rfl
  | [], y :: r, _, _, h => by simp [Lib.bytesOf] at h
  | x :: r, [], _, _, h => by simp [Lib.bytesOf] at h
  | x :: r, y :: t, hx, hy, h => by
    have h1 : UInt8.ofNat x.toNat = UInt8.ofNat y.toNat ∧ Lib.bytesOf r = Lib.bytesOf t := by simpa [Lib.bytesOf] using h
    have a := wf_u8.mp (hx x (by simp))
    have b := wf_u8.mp (hy y (by simp))
    have e := congrArg UInt8.toNat h1.1
    rw [UInt8.toNat_ofNat', UInt8.toNat_ofNat', Nat.mod_eq_of_lt (by omega), Nat.mod_eq_of_lt (by omega)] at e
    rw [show x = y by omega, bytesOf_inj (fun z hz => hx z (by simp [hz])) (fun z hz => hy z (by simp [hz])) h1.2]
theorem sl_string {W : World} {B : Nat} {l : List Int} {v : Value} (h : SlV W B l v) : (convert 22 9 v).run Tryz.prog W = .ok (.string (strOfNums l)) W := by
  obtain ⟨a, cap, rfl, hi, -, -⟩ := h
  rcases Nat.eq_zero_or_pos l.length with h0 | hp
  · rw [h0, List.eq_nil_of_length_eq_zero h0]
    exact run_convert_bytes_zero W 22 5 Tryz.underlying22 Tryz.underlying5 a cap 9 Tryz.underlying9
  · obtain ⟨b, off, rfl, -, hc⟩ := hi.2 hp
    exact run_convert_bytes_arg W 22 5 Tryz.underlying22 Tryz.underlying5 b off l.length cap l rfl hc 9 Tryz.underlying9
theorem equal_any (W : World) (B1 B2 : Nat) (l1 l2 : List Int) (v1 v2 : Value) (h1 : SlV W B1 l1 v1) (h2 : SlV W B2 l2 v2) :
    Calls Tryz.prog 81 #[v1, v2] W fun e w' => e = .returned (.bool (decide (l1 = l2))) ∧ W = w' := by
  refine (Tryz.bytes_Equal v1 v2 l1 l2 W (sl_string h1) (sl_string h2)).mono fun e w' ⟨he, hw⟩ => ⟨?_, hw.symm⟩
  obtain ⟨_, _, _, i1, _⟩ := h1
  obtain ⟨_, _, _, i2, _⟩ := h2
  rw [he]
  congr 2
  by_cases e : l1 = l2
  · simp [e]
  · have : ¬ Lib.bytesOf l1 = Lib.bytesOf l2 := fun h => e (bytesOf_inj i1.1 i2.1 h)
    simp [e, this]
theorem nil_of_err {v : Value} (h : ErrV false v) : v = .nilIface := h
theorem cursC_cells {W : World} {B : Nat} {cs : Array Value} {vt : Value} {l : List Int} {h : Hd} (hc : CursC W B cs vt (cursC l h)) :
    ∃ a0 n0 c0 a1 n1 c1 a2 n2 c2 a4 n4 c4 e4 a3 n3 c3, cs = #[.slice a0 n0 c0, .nilIface, .slice a1 n1 c1, .nilIface, .slice a2 n2 c2, .nilIface, .slice a4 n4 c4, e4, .slice a3 n3 c3] ∧ (e4 = .nilIface ∨ ∃ t u, e4 = .iface t u) := by
  obtain ⟨hz, ⟨⟨v0, h0, a0, c0, rfl, -⟩, e0, g0, k0⟩, ⟨⟨v1, h1, a1, c1, rfl, -⟩, e1, g1, k1⟩, ⟨⟨v2, h2, a2, c2, rfl, -⟩, e2, g2, k2⟩, ⟨⟨v4, h4, a4, c4, rfl, -⟩, e4, g4, k4⟩, h8, a3, c3, rfl, -⟩ := hc
  obtain rfl := nil_of_err k0
  obtain rfl := nil_of_err k1
  obtain rfl := nil_of_err k2
  have k5 := errV_cases k4
  clear k0 k1 k2 k4
  obtain ⟨L⟩ := cs
  match L, hz with
  | [x0, x1, x2, x3, x4, x5, x6, x7, x8], _ =>
    simp at h0 g0 h1 g1 h2 g2 h4 g4 h8
    subst h0 g0 h1 g1 h2 g2 h4 g4 h8
    exact ⟨_, _, _, _, _, _, _, _, _, _, _, _, _, _, _, _, rfl, k5⟩
structure JR4 (W1 : World) (B : Nat) (S : C5) (k : Nat) (f : Bool) (W : World) (vals : Nat → Value) : Prop where
  below : Below W1.heap.size W1 W
  ord : k = 2 → f = true
  got : 1 ≤ k → ∃ cs vt, vals 0 = .agg cs ∧ CursC W B cs vt S
  obj : f = true → ∃ g, vals 2 = .pointer (some ⟨g, 0, none⟩) ∧ W1.heap.size ≤ g ∧ (k ≤ 1 → Has W g 104 #[.slice none 0 0, .nilIface, .slice none 0 0, .nilIface, .slice none 0 0, .nilIface, .slice none 0 0, .nilIface, .slice none 0 0]) ∧ (k = 2 → ∃ cs vt, Has W g 104 cs ∧ CursC W B cs vt S)
theorem CurAt.below {W W' : World} {B o : Nat} {cs : Array Value} {c : Cu} (h : CurAt W B cs o c) (hb : Below B W W') : CurAt W' B cs o c := by
  obtain ⟨⟨v, h1, h2⟩, h3⟩ := h
  exact ⟨⟨v, h1, h2.below hb⟩, h3⟩
theorem CursC.below {W W' : World} {B : Nat} {cs : Array Value} {vt : Value} {S : C5} (h : CursC W B cs vt S) (hb : Below B W W') : CursC W' B cs vt S := by
  obtain ⟨h1, h2, h3, h4, h5, h6, h7⟩ := h
  exact ⟨h1, h2.below hb, h3.below hb, h4.below hb, h5.below hb, h6, h7.below hb⟩
structure RdO (w : World) (hb r o g : Nat) (X : Array Value) (vt : Value) (S : C5) (W : World) (vs vm : Value) (ss : List Sp) (ms : List Sm) : Prop where
  below : Below w.heap.size w W
  hdr : Has W hb 60 X
  res : Has W r 26 #[.slice none 0 0, .slice none 0 0]
  ne : r ≠ o
  lor : w.heap.size ≤ r
  loo : w.heap.size ≤ o
  curs : Curs W w.heap.size g vt S
  obj : Has W o 26 #[vs, vm]
  secs : SR W w.heap.size vs ss
  syms : W.ownsRow w.heap.size 51 4 vm ms.length (flatM ms)
section
variable {w W W' : World} {hb r o g : Nat} {X : Array Value} {vt : Value} {S : C5} {vs vm : Value} {ss : List Sp} {ms : List Sm}
theorem RdO.call (h : RdO w hb r o g X vt S W vs vm ss ms) {S' : C5} (hc : Curs W' w.heap.size g vt S') (hg : W.grownBy W' (some g)) : RdO w hb r o g X vt S' W' vs vm ss ms := by
  obtain ⟨cs, hh⟩ := h.curs.has
  exact ⟨h.below.grown hg h.below.size (fun j e => by injection e with e; have := h.curs.base; omega), h.hdr.grown hg (curs_ne h.curs h.hdr (by decide)), h.res.grown hg (curs_ne h.curs h.res (by decide)), h.ne, h.lor, h.loo, hc, h.obj.grown hg (curs_ne h.curs h.obj (by decide)), h.secs.other hh (by decide) (by decide) (by decide) hg, h.syms.kept hg (row_apart h.syms hh (by decide))⟩
theorem RdO.made (h : RdO w hb r o g X vt S W vs vm ss ms) (hg : W.grownBy W' none) : RdO w hb r o g X vt S W' vs vm ss ms :=
  ⟨h.below.grown hg h.below.size (by simp), h.hdr.grown hg (by simp), h.res.grown hg (by simp), h.ne, h.lor, h.loo, h.curs.kept hg (by simp) (by simp), h.obj.grown hg (by simp), h.secs.kept hg, h.syms.kept hg (Classical.em _)⟩
theorem RdO.alloc (h : RdO w hb r o g X vt S W vs vm ss ms) (ob : Obj) : RdO w hb r o g X vt S (W.alloc ob) vs vm ss ms := h.made ⟨rfl, rfl, rfl, by simp, fun i hi _ => Below.heap_alloc W ob i hi⟩
theorem RdO.drew (h : RdO w hb r o g X vt S W vs vm ss ms) : RdO w hb r o g X vt S W.drew vs vm ss ms := h.made ⟨rfl, rfl, rfl, Nat.le_refl _, fun _ _ _ => rfl⟩
theorem RdO.sec (h : RdO w hb r o g X vt S W vs vm ss ms) {y : Sp} (hap : ∀ z ∈ ss, ListsApart z y) (hwf : ∀ x ∈ y.s.bytes, (Lit.int .u8 x).wf = true) (h1 : W.ownsRow w.heap.size 5 1 (.slice y.a1 y.s.bytes.length y.c1) y.s.bytes.length (y.s.bytes.map (Value.int .u8)))
    (h2 : W.ownsRow w.heap.size 65 4 (.slice y.a2 y.s.fixs.length y.c2) y.s.fixs.length (flatF y.s.fixs)) {v' : Value} (hg0 : W.grownBy W' vs.ownBlock)
    (hr : W'.ownsRow w.heap.size 48 6 v' (ss.length + 1) (flatS ss ++ [.string y.s.name, .int .i64 y.s.kind, .int .i64 y.s.align, .slice y.a1 y.s.bytes.length y.c1, .int .i64 y.s.size, .slice y.a2 y.s.fixs.length y.c2])) :
    Has W' o 26 #[vs, vm] ∧ RdO w hb r o g X vt S (W'.setCell ⟨o, 0, none⟩ v') v' vm (ss ++ [y]) ms := by
  have ho : Has W' o 26 #[vs, vm] := h.obj.grown hg0 (h.obj.other h.secs.row (by decide))
  have hre : Has W' r 26 #[.slice none 0 0, .slice none 0 0] := h.res.grown hg0 (h.res.other h.secs.row (by decide))
  have hhd : Has W' hb 60 X := h.hdr.grown hg0 (h.hdr.other h.secs.row (by decide))
  have hb' : Below w.heap.size w W' := h.below.grown hg0 h.below.size (fun q hq => (h.secs.row.lt q hq).1)
  have hg : W'.grownBy (W'.setCell ⟨o, 0, none⟩ v') (some o) := only_put' 0 _
  have hsy := h.syms.kept hg0 (rows_apart h.syms h.secs.row (by decide))
  have hss := h.secs.app hap hwf h1 h2 hr hg0
  have hc := h.curs.row h.secs.row (by decide) (Nat.le_refl _) hg0
  exact ⟨ho, hb'.setCell h.loo _, hhd.grown hg (by intro e; injection e with e; subst e; unfold Has at hhd ho; rw [hhd] at ho; injection ho with ho; injection ho with _ ho; exact absurd ho (by decide)), hre.away h.ne _, h.ne, h.lor, h.loo, hc.put ho (by decide) h.loo _ _, ho.put 0 _, hss.other ho (by decide) (by decide) (by decide) hg, hsy.kept hg (row_apart hsy ho (by decide))⟩
theorem RdO.sym (h : RdO w hb r o g X vt S W vs vm ss ms) {m : Sm} {v' : Value} (hg0 : W.grownBy W' vm.ownBlock)
    (hr : W'.ownsRow w.heap.size 51 4 v' (ms.length + 1) (flatM ms ++ [.string m.name, .int .i64 m.bind, .int .i64 m.loc, .int .i64 m.value])) :
    Has W' o 26 #[vs, vm] ∧ RdO w hb r o g X vt S (W'.setCell ⟨o, 1, none⟩ v') vs v' ss (ms ++ [m]) := by
  have ho : Has W' o 26 #[vs, vm] := h.obj.grown hg0 (h.obj.other h.syms (by decide))
  have hre : Has W' r 26 #[.slice none 0 0, .slice none 0 0] := h.res.grown hg0 (h.res.other h.syms (by decide))
  have hhd : Has W' hb 60 X := h.hdr.grown hg0 (h.hdr.other h.syms (by decide))
  have hb' : Below w.heap.size w W' := h.below.grown hg0 h.below.size (fun q hq => (h.syms.lt q hq).1)
  have hg : W'.grownBy (W'.setCell ⟨o, 1, none⟩ v') (some o) := only_put' 1 _
  have hss := h.secs.row' h.syms (by decide) (by decide) (by decide) hg0
  have hc := h.curs.row h.syms (by decide) (Nat.le_refl _) hg0
  refine ⟨ho, hb'.setCell h.loo _, hhd.grown hg (by intro e; injection e with e; subst e; unfold Has at hhd ho; rw [hhd] at ho; injection ho with ho; injection ho with _ ho; exact absurd ho (by decide)), hre.away h.ne _, h.ne, h.lor, h.loo, hc.put ho (by decide) h.loo _ _, ho.put 1 _, hss.other ho (by decide) (by decide) (by decide) hg, ?_⟩
  rw [flatM_snoc, List.length_append]
  exact World.ownsRow.kept hr hg (row_apart hr ho (by decide))
end
def stAt (S : C5) (j : Nat) : C5 := { S with s := (secP S.t S.three j).s, f := (secP S.t S.three j).f, b := (secP S.t S.three j).b }
def smAt (S : C5) (j : Nat) : C5 := { S with m := symP S.t S.m j }
theorem stAt_three (S : C5) (j : Nat) : (stAt S j).three = secP S.t S.three j := rfl
theorem stAt_t (S : C5) (j : Nat) : (stAt S j).t = S.t := rfl
theorem stAt_next (S : C5) (j : Nat) : ({ stAt S j with s := (secPast (stAt S j).t (stAt S j).three).s, f := (secPast (stAt S j).t (stAt S j).three).f, b := (secPast (stAt S j).t (stAt S j).three).b } : C5) = stAt S (j + 1) := rfl
theorem smAt_next (S : C5) (j : Nat) : ({ smAt S j with m := symPast (smAt S j).t (smAt S j).m } : C5) = smAt S (j + 1) := rfl
def aggS (y : Sp) : Value := .agg #[.string y.s.name, .int .i64 y.s.kind, .int .i64 y.s.align, .slice y.a1 y.s.bytes.length y.c1, .int .i64 y.s.size, .slice y.a2 y.s.fixs.length y.c2]
structure SecY (w : World) (ss : List Sp) (z : Sx) (W : World) (y : Sp) : Prop where
  is : y.s = z
  apart : ∀ x ∈ ss, ListsApart x y
  own1 : W.ownsRow w.heap.size 5 1 (.slice y.a1 y.s.bytes.length y.c1) y.s.bytes.length (y.s.bytes.map (Value.int .u8))
  own2 : W.ownsRow w.heap.size 65 4 (.slice y.a2 y.s.fixs.length y.c2) y.s.fixs.length (flatF y.s.fixs)
def JR8 (w : World) (hb r o g : Nat) (X : Array Value) (vt : Value) (S S' : C5) (vs vm : Value) (ss : List Sp) (ms : List Sm) (z : Sx) (k : Nat) (_f : Bool) (W : World) (vals : Nat → Value) : Prop :=
  match k with
  | 0 => RdO w hb r o g X vt S W vs vm ss ms
  | 1 => RdO w hb r o g X vt S' W vs vm ss ms ∧ ∃ y, SecY w ss z W y ∧ vals 0 = aggS y
  | 2 => RdO w hb r o g X vt S' W vs vm ss ms ∧ ∃ y, SecY w ss z W y ∧ ∃ b, vals 1 = .slice (some ⟨b, 0, none⟩) 1 1 ∧ Has W b 48 #[.string y.s.name, .int .i64 y.s.kind, .int .i64 y.s.align, .slice y.a1 y.s.bytes.length y.c1, .int .i64 y.s.size, .slice y.a2 y.s.fixs.length y.c2]
  | 3 => ∃ y a c, y.s = z ∧ vals 2 = .slice a (ss.length + 1) c ∧ Has W o 26 #[vs, vm] ∧ RdO w hb r o g X vt S' (W.setCell ⟨o, 0, none⟩ (.slice a (ss.length + 1) c)) (.slice a (ss.length + 1) c) vm (ss ++ [y]) ms
  | _ => ∃ y v, y.s = z ∧ RdO w hb r o g X vt S' W v vm (ss ++ [y]) ms
theorem JR8.obj {w W : World} {hb r o g : Nat} {X : Array Value} {vt : Value} {S S' : C5} {vs vm : Value} {ss : List Sp} {ms : List Sm} {z : Sx} {k : Nat} {f : Bool} {vals : Nat → Value} (h : JR8 w hb r o g X vt S S' vs vm ss ms z k f W vals) (hk : k ≤ 3) : Has W o 26 #[vs, vm] := by
  match k, h, hk with
  | 0, h, _ => exact RdO.obj h
  | 1, h, _ => exact RdO.obj h.1
  | 2, h, _ => exact RdO.obj h.1
  | 3, h, _ => obtain ⟨_, _, _, _, _, h, _⟩ := h; exact h
  | k + 4, _, hk => exact absurd hk (by omega)
def JR12 (w : World) (hb r o g : Nat) (X : Array Value) (vt : Value) (S S' : C5) (vs vm : Value) (ss : List Sp) (ms : List Sm) (m : Sm) (k : Nat) (_f : Bool) (W : World) (vals : Nat → Value) : Prop :=
  match k with
  | 0 => RdO w hb r o g X vt S W vs vm ss ms
  | 1 => RdO w hb r o g X vt S' W vs vm ss ms ∧ vals 0 = .agg #[.string m.name, .int .i64 m.bind, .int .i64 m.loc, .int .i64 m.value]
  | 2 => RdO w hb r o g X vt S' W vs vm ss ms ∧ ∃ b, vals 1 = .slice (some ⟨b, 0, none⟩) 1 1 ∧ Has W b 51 #[.string m.name, .int .i64 m.bind, .int .i64 m.loc, .int .i64 m.value]
  | 3 => ∃ a c, vals 2 = .slice a (ms.length + 1) c ∧ Has W o 26 #[vs, vm] ∧ RdO w hb r o g X vt S' (W.setCell ⟨o, 1, none⟩ (.slice a (ms.length + 1) c)) vs (.slice a (ms.length + 1) c) ss (ms ++ [m])
  | _ => ∃ v, RdO w hb r o g X vt S' W vs v ss (ms ++ [m])
theorem JR12.obj {w W : World} {hb r o g : Nat} {X : Array Value} {vt : Value} {S S' : C5} {vs vm : Value} {ss : List Sp} {ms : List Sm} {m : Sm} {k : Nat} {f : Bool} {vals : Nat → Value} (h : JR12 w hb r o g X vt S S' vs vm ss ms m k f W vals) (hk : k ≤ 3) : Has W o 26 #[vs, vm] := by
  match k, h, hk with
  | 0, h, _ => exact RdO.obj h
  | 1, h, _ => exact RdO.obj h.1
  | 2, h, _ => exact RdO.obj h.1
  | 3, h, _ => obtain ⟨_, _, _, h, _⟩ := h; exact h
  | k + 4, _, hk => exact absurd hk (by omega)
def ReadE (w : World) (l : List Int) (e : Ending) (w' : World) : Prop :=
  Below w.heap.size w w' ∧ ((rd l = none ∧ ∃ t u, e = .returned (.tuple #[.agg #[.slice none 0 0, .slice none 0 0], .iface t u])) ∨
    ∃ (ss : List Sp) (ms : List Sm) (a1 a2 : Option Addr) (c1 c2 : Nat), rd l = some (ss.map Sp.s, ms) ∧ e = .returned (.tuple #[.agg #[.slice a1 ss.length c1, .slice a2 ms.length c2], .nilIface]) ∧
      SR w' w.heap.size (.slice a1 ss.length c1) ss ∧ w'.ownsRow w.heap.size 51 4 (.slice a2 ms.length c2) ms.length (flatM ms))

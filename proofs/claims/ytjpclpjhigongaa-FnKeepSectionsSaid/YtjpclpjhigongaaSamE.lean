/-
  Contract of the laws' own comparison of bytes: equal bytes are found equal. laws.sameSection and laws.sameObject: equal ones are found equal. The walk of FnSymbolValid, over what is wanted of the program.
-/
import Derived.WalkSpells
import Derived.WalkLawsBesides
import Derived.Handy
import Derived.Deep.QuietTactic
import Derived.BigQuiet
import Derived.Deep.OwnRows
import Derived.Deep.CutBlock
import Derived.Test.YtjpclpjhigongaaBase
import Derived.Test.YtjpclpjhigongaaSecs
import Derived.Test.YtjpclpjhigongaaRegionV
import Derived.Test.YtjpclpjhigongaaDrC
import Derived.Test.YtjpclpjhigongaaWant4
import Derived.Test.YtjpclpjhigongaaMem
/- Contract of the laws' own comparison of bytes: equal bytes are found equal. -/
namespace Go.Proofs.Ytjpclpjhigongaa
open Go.RowKit

set_option maxHeartbeats 1000000 in
theorem sameBytes_yes (w : World) (B1 B2 : Nat) (a1 a2 : Option Addr) (c1 c2 : Nat) (l : List Int) (h1 : Ints w .u8 B1 a1 l) (h2 : Ints w .u8 B2 a2 l) (hlen : l.length ≤ 9223372036854775807) :
    Calls Try.prog 60 #[.slice a1 l.length c1, .slice a2 l.length c2] w fun e w' => e = .returned (.bool true) ∧ ∃ n, w' = w.drewN n := by
  obtain ⟨len, hL⟩ : ∃ n, n = l.length := ⟨_, rfl⟩
  rw [← hL] at hlen ⊢
  have HL : Hid (len = l.length) := hL
  clear hL
  go_enter Try.func60, Try.ntmps60
  go_wp2
  go_loopw [5] (fun i wr => ∃ k : Nat, k ≤ len ∧ i = .int .i64 k ∧ ∃ n, wr = w.drewN n) (fun i _ => len - (intOf i).toNat)
  case atStart => exact ⟨0, Nat.zero_le _, rfl, 0, rfl⟩
  case round =>
    obtain ⟨k, hk, rfl, n, rfl⟩ := hrel
    by_cases hlt : k < len
    · have hll : k < l.length := by rw [← HL.out]; exact hlt
      obtain ⟨b1, o1, rfl, _, e1⟩ := h1.at_ hll
      obtain ⟨b2, o2, rfl, _, e2⟩ := h2.at_ hll
      obtain ⟨x, hx⟩ : ∃ x, l.getD k 0 = x := ⟨_, rfl⟩
      rw [hx] at e1 e2
      clear hx h1 h2 hll
      have hi : (k : Int) < (len : Int) := by omega
      go_wp2
      go_quiet (fail)
      go_wp2
      go_roundw
      case rel => exact ⟨k + 1, by omega, by go_num, _, rfl⟩
      case measure => simp [intOf]; omega
    · go_wp2
      go_ret
      exact ⟨rfl, _, rfl⟩

end Go.Proofs.Ytjpclpjhigongaa
/- laws.sameSection and laws.sameObject: equal ones are found equal. -/
namespace Go.Proofs.Ytjpclpjhigongaa
open Go.RowKit

set_option maxRecDepth 100000 in
set_option maxHeartbeats 2000000 in
theorem sameSection_yes (w : World) (B : Nat) (s : Sx) (a1 a2 e1 e2 : Option Addr) (c1 c2 g1 g2 n m : Nat) (hn : n = s.bytes.length) (hm : m = s.fixs.length) (h1 : Ints w .u8 B a1 s.bytes) (h2 : Ints w .u8 B a2 s.bytes) (f1 : Fixs w B e1 s.fixs) (f2 : Fixs w B e2 s.fixs) (hB : B ≤ w.heap.size) (hlen : n ≤ 9223372036854775807) (hlem : m ≤ 9223372036854775807) :
    Calls Try.prog 36 #[.agg #[.string s.name, .int .i64 s.kind, .int .i64 s.align, .slice a1 n c1, .int .i64 s.size, .slice e1 m g1], .agg #[.string s.name, .int .i64 s.kind, .int .i64 s.align, .slice a2 n c2, .int .i64 s.size, .slice e2 m g2]] w fun e w' => e = .returned (.bool true) ∧ Below w.heap.size w w' := by
  have HSB := hidden (fun (W : World) (hW : Below w.heap.size w W) => by
    have := sameBytes_yes W B B a1 a2 c1 c2 s.bytes (h1.below (hW.mono hB)) (h2.below (hW.mono hB)) (by omega)
    rw [← hn] at this
    exact this : ∀ (W : World), Below w.heap.size w W → Calls Try.prog 60 #[.slice a1 n c1, .slice a2 n c2] W fun e w' => e = .returned (.bool true) ∧ ∃ k, w' = W.drewN k)
  have HN := hidden hn
  have HM := hidden hm
  have F1 := hidden f1
  have F2 := hidden f2
  have HB := hidden hB
  have hb0 : Below w.heap.size w ((w.alloc (.cells #[.string s.name, .int .i64 s.kind, .int .i64 s.align, .slice a1 n c1, .int .i64 s.size, .slice e1 m g1] 64)).alloc (.cells #[.string s.name, .int .i64 s.kind, .int .i64 s.align, .slice a2 n c2, .int .i64 s.size, .slice e2 m g2] 64)) := ((Below.refl _ _).alloc (Nat.le_refl _) _).alloc (by simp) _
  have hS := hidden (HSB.out _ hb0)
  have hx1 : Has ((w.alloc (.cells #[.string s.name, .int .i64 s.kind, .int .i64 s.align, .slice a1 n c1, .int .i64 s.size, .slice e1 m g1] 64)).alloc (.cells #[.string s.name, .int .i64 s.kind, .int .i64 s.align, .slice a2 n c2, .int .i64 s.size, .slice e2 m g2] 64)) w.heap.size 64 #[.string s.name, .int .i64 s.kind, .int .i64 s.align, .slice a1 n c1, .int .i64 s.size, .slice e1 m g1] := (Has.new w _ _).alloc _
  have hx2 : Has ((w.alloc (.cells #[.string s.name, .int .i64 s.kind, .int .i64 s.align, .slice a1 n c1, .int .i64 s.size, .slice e1 m g1] 64)).alloc (.cells #[.string s.name, .int .i64 s.kind, .int .i64 s.align, .slice a2 n c2, .int .i64 s.size, .slice e2 m g2] 64)) (w.heap.size + 1) 64 #[.string s.name, .int .i64 s.kind, .int .i64 s.align, .slice a2 n c2, .int .i64 s.size, .slice e2 m g2] := by
    have := Has.new (w.alloc (.cells #[.string s.name, .int .i64 s.kind, .int .i64 s.align, .slice a1 n c1, .int .i64 s.size, .slice e1 m g1] 64)) 64 #[.string s.name, .int .i64 s.kind, .int .i64 s.align, .slice a2 n c2, .int .i64 s.size, .slice e2 m g2]
    rw [show (w.alloc (.cells #[.string s.name, .int .i64 s.kind, .int .i64 s.align, .slice a1 n c1, .int .i64 s.size, .slice e1 m g1] 64)).heap.size = w.heap.size + 1 by simp] at this
    exact this
  have HX1 := hidden hx1
  have HX2 := hidden hx2
  have HB0 := hidden hb0
  have hss : (s.name.toList == s.name.toList) = true := beq_self_eq_true _
  have hk1 : (s.kind != s.kind) = false := by simp
  have hk2 : (s.align != s.align) = false := by simp
  have hk3 : (s.size != s.size) = false := by simp
  clear hn hm h1 h2 f1 f2 hx1 hx2 hb0 HSB hB
  go_enter Try.func36, Try.ntmps36
  go_wp2_with fail
  refine hS.out.mono ?_
  clear hS
  rintro e w1 ⟨rfl, k1, hw1⟩
  have hb1 : Below w.heap.size w w1 := by rw [hw1]; exact below_drewN HB0.out k1
  have hx1 : Has w1 w.heap.size 64 #[.string s.name, .int .i64 s.kind, .int .i64 s.align, .slice a1 n c1, .int .i64 s.size, .slice e1 m g1] := by rw [hw1]; exact HX1.out.drewN k1
  have hx2 : Has w1 (w.heap.size + 1) 64 #[.string s.name, .int .i64 s.kind, .int .i64 s.align, .slice a2 n c2, .int .i64 s.size, .slice e2 m g2] := by rw [hw1]; exact HX2.out.drewN k1
  have q5 : ∀ k, (w1.drewN k).cell? ⟨w.heap.size, 5, none⟩ = some (.slice e1 m g1) := fun k => (hx1.drewN k).cell 5
  have r5 : ∀ k, (w1.drewN k).cell? ⟨w.heap.size + 1, 5, none⟩ = some (.slice e2 m g2) := fun k => (hx2.drewN k).cell 5
  have q5' : w1.cell? ⟨w.heap.size, 5, none⟩ = some (.slice e1 m g1) := hx1.cell 5
  have r5' : w1.cell? ⟨w.heap.size + 1, 5, none⟩ = some (.slice e2 m g2) := hx2.cell 5
  have HB1 := hidden hb1
  clear hw1 HX1 HX2 HB0 hb1 hx1 hx2 hk1 hk2 hk3 hss
  go_wp2_with fail
  go_loopw [5] (fun i wr => ∃ k : Nat, k ≤ m ∧ i = .int .i64 k ∧ ∃ q, wr = w1.drewN q) (fun i _ => m - (intOf i).toNat)
  case atStart => exact ⟨0, Nat.zero_le _, rfl, 0, rfl⟩
  case round =>
    obtain ⟨k, hk, rfl, q, rfl⟩ := hrel
    by_cases hlt : k < m
    · have hll : k < s.fixs.length := by rw [← HM.out]; exact hlt
      obtain ⟨b1, o1, rfl, _, p0, p1, p2, p3⟩ := (F1.out.below (HB1.out.mono HB.out)).at_ hll
      obtain ⟨b2, o2, rfl, _, u0, u1, u2, u3⟩ := (F2.out.below (HB1.out.mono HB.out)).at_ hll
      obtain ⟨f, hf⟩ : ∃ f, s.fixs[k] = f := ⟨_, rfl⟩
      rw [hf] at p0 p1 p2 p3 u0 u1 u2 u3
      obtain ⟨x0, x1, x2, x3⟩ := f
      simp only at p0 p1 p2 p3 u0 u1 u2 u3
      clear hf hll
      have hi : (k : Int) < (m : Int) := by omega
      go_wp2_with fail
      go_quiet (fail)
      go_wp2_with fail
      go_roundw
      case rel => exact ⟨k + 1, by omega, by go_num, _, rfl⟩
      case measure => simp [intOf]; omega
    · have hi : ¬ (k : Int) < (m : Int) := by omega
      go_wp2_with fail
      go_ret
      exact ⟨rfl, below_drewN HB1.out _⟩

set_option maxRecDepth 100000 in
set_option maxHeartbeats 4000000 in
theorem sameObject_yes (w : World) (B : Nat) (a1 a2 e1 e2 : Option Addr) (c1 c2 g1 g2 n m : Nat) (l1 l2 : List Sp) (ms : List Sm) (hl : l1.map Sp.s = l2.map Sp.s) (hn : n = l1.length) (hm : m = ms.length) (h1 : Sects w B a1 l1) (h2 : Sects w B a2 l2) (f1 : Syms w B e1 ms) (f2 : Syms w B e2 ms) (hB : B ≤ w.heap.size) (hlen : n ≤ 9223372036854775807) (hlem : m ≤ 9223372036854775807) (hls : ∀ y ∈ l1, y.s.lens) :
    Calls Try.prog 8 #[.agg #[.slice a1 n c1, .slice e1 m g1], .agg #[.slice a2 n c2, .slice e2 m g2]] w fun e w' => e = .returned (.bool true) ∧ Below w.heap.size w w' := by
  have hn2 : n = l2.length := by have := congrArg List.length hl; rw [List.length_map, List.length_map] at this; omega
  have HN := hidden hn
  have HN2 := hidden hn2
  have HM := hidden hm
  have H1 := hidden h1
  have H2 := hidden h2
  have F1 := hidden f1
  have F2 := hidden f2
  have HB := hidden hB
  have HL := hidden hl
  have HLS := hidden hls
  have hb0 : Below w.heap.size w ((w.alloc (.cells #[.slice a1 n c1, .slice e1 m g1] 26)).alloc (.cells #[.slice a2 n c2, .slice e2 m g2] 26)) := ((Below.refl _ _).alloc (Nat.le_refl _) _).alloc (by simp) _
  have hx1 : Has ((w.alloc (.cells #[.slice a1 n c1, .slice e1 m g1] 26)).alloc (.cells #[.slice a2 n c2, .slice e2 m g2] 26)) w.heap.size 26 #[.slice a1 n c1, .slice e1 m g1] := (Has.new w _ _).alloc _
  have hx2 : Has ((w.alloc (.cells #[.slice a1 n c1, .slice e1 m g1] 26)).alloc (.cells #[.slice a2 n c2, .slice e2 m g2] 26)) (w.heap.size + 1) 26 #[.slice a2 n c2, .slice e2 m g2] := by
    have := Has.new (w.alloc (.cells #[.slice a1 n c1, .slice e1 m g1] 26)) 26 #[.slice a2 n c2, .slice e2 m g2]
    rw [show (w.alloc (.cells #[.slice a1 n c1, .slice e1 m g1] 26)).heap.size = w.heap.size + 1 by simp] at this
    exact this
  clear hn hn2 hm h1 h2 f1 f2 hB hl hls
  go_enter Try.func8, Try.ntmps8
  go_upto_region 1 with fail
  obtain ⟨X, hX⟩ : ∃ q, (w.alloc (.cells #[.slice a1 n c1, .slice e1 m g1] 26)).alloc (.cells #[.slice a2 n c2, .slice e2 m g2] 26) = q := ⟨_, rfl⟩
  rw [hX] at hb0 hx1 hx2
  try rw [hX]
  have HX1 := hidden hx1
  have HX2 := hidden hx2
  have HW : Hid (∀ W, Below X.heap.size X W → Below w.heap.size w W) := fun W hW => hb0.trans (hW.mono hb0.size)
  have q0 : X.cell? ⟨w.heap.size, 0, none⟩ = some (.slice a1 n c1) := hx1.cell 0
  have q1 : X.cell? ⟨w.heap.size, 1, none⟩ = some (.slice e1 m g1) := hx1.cell 1
  have r0 : X.cell? ⟨w.heap.size + 1, 0, none⟩ = some (.slice a2 n c2) := hx2.cell 0
  have r1 : X.cell? ⟨w.heap.size + 1, 1, none⟩ = some (.slice e2 m g2) := hx2.cell 1
  clear hX hx1 hx2 hb0
  go_wp2_with fail
  clear q0 q1 r0 r1
  go_loopw [5] (fun i wr => ∃ k : Nat, k ≤ n ∧ i = .int .i64 k ∧ Below X.heap.size X wr) (fun i _ => n - (intOf i).toNat)
  case atStart => exact ⟨0, Nat.zero_le _, rfl, Below.refl _ _⟩
  case round =>
    obtain ⟨k, hk, rfl, hbw⟩ := hrel
    have HC0 : Hid (∀ W, Below wr.heap.size wr W → Has W w.heap.size 26 #[.slice a1 n c1, .slice e1 m g1] ∧ Has W (w.heap.size + 1) 26 #[.slice a2 n c2, .slice e2 m g2]) := fun W hW => ⟨HX1.out.below (hbw.trans (hW.mono hbw.size)) HX1.out.lt, HX2.out.below (hbw.trans (hW.mono hbw.size)) HX2.out.lt⟩
    have s0 : wr.cell? ⟨w.heap.size, 0, none⟩ = some (.slice a1 n c1) := (HC0.out wr (Below.refl _ _)).1.cell 0
    by_cases hlt : k < n
    · have hi : (k : Int) < (n : Int) := by omega
      have hk1 : k < l1.length := by rw [← HN.out]; exact hlt
      have hk2 : k < l2.length := by rw [← HN2.out]; exact hlt
      have HWr : Hid (∀ W, Below wr.heap.size wr W → Below w.heap.size w W) := fun W hW => HW.out W (hbw.trans (hW.mono hbw.size))
      obtain ⟨b1, o1, rfl, hbb1, hp1⟩ := H1.out.at_ hk1
      obtain ⟨b2, o2, rfl, hbb2, hp2⟩ := H2.out.at_ hk2
      obtain ⟨y, hy⟩ : ∃ y, l1[k] = y := ⟨_, rfl⟩
      obtain ⟨z, hz⟩ : ∃ y, l2[k] = y := ⟨_, rfl⟩
      rw [hy] at hp1
      rw [hz] at hp2
      have hyz : y.s = z.s := by
        have e1 : (l1.map Sp.s)[k]? = some y.s := by rw [List.getElem?_map, List.getElem?_eq_getElem hk1, hy]; rfl
        have e2 : (l2.map Sp.s)[k]? = some z.s := by rw [List.getElem?_map, List.getElem?_eq_getElem hk2, hz]; rfl
        rw [HL.out, e2] at e1
        injection e1 with e1
        exact e1.symm
      have hmy : y ∈ l1 := by rw [← hy]; exact List.getElem_mem hk1
      have hmz : z ∈ l2 := by rw [← hz]; exact List.getElem_mem hk2
      have HA0 : Hid (∀ W, Below wr.heap.size wr W → W.cell? ⟨w.heap.size, 0, none⟩ = some (.slice (some ⟨b1, o1, none⟩) n c1) ∧ W.cell? ⟨w.heap.size + 1, 0, none⟩ = some (.slice (some ⟨b2, o2, none⟩) n c2)) := fun W hW => ⟨(HC0.out W hW).1.cell 0, (HC0.out W hW).2.cell 0⟩
      have HP1 : Hid (∀ W, Below wr.heap.size wr W → SecAt W b1 (o1 + k * 6) y) := fun W hW => hp1.keep fun i => by rw [(HWr.out W hW).cell (by show b1 < _; have := HB.out; omega)]
      have HP2 : Hid (∀ W, Below wr.heap.size wr W → SecAt W b2 (o2 + k * 6) z) := fun W hW => hp2.keep fun i => by rw [(HWr.out W hW).cell (by show b2 < _; have := HB.out; omega)]
      obtain ⟨hln1, hln2, hln3⟩ := HLS.out y hmy
      have HSS : Hid (∀ W, Below wr.heap.size wr W → Calls Try.prog 36 #[.agg #[.string y.s.name, .int .i64 y.s.kind, .int .i64 y.s.align, .slice y.a1 y.s.bytes.length y.c1, .int .i64 y.s.size, .slice y.a2 y.s.fixs.length y.c2], .agg #[.string z.s.name, .int .i64 z.s.kind, .int .i64 z.s.align, .slice z.a1 z.s.bytes.length z.c1, .int .i64 z.s.size, .slice z.a2 z.s.fixs.length z.c2]] W fun e w' => e = .returned (.bool true) ∧ Below W.heap.size W w') := fun W hW => by
        have hb := HWr.out W hW
        have := sameSection_yes W B y.s y.a1 z.a1 y.a2 z.a2 y.c1 z.c1 y.c2 z.c2 y.s.bytes.length y.s.fixs.length rfl rfl ((H1.out.bytes y hmy).below (hb.mono HB.out)) (by rw [hyz]; exact (H2.out.bytes z hmz).below (hb.mono HB.out)) ((H1.out.fixs y hmy).below (hb.mono HB.out)) (by rw [hyz]; exact (H2.out.fixs z hmz).below (hb.mono HB.out)) (Nat.le_trans HB.out hb.size) hln2 hln3
        have e : ∀ t : Sx, t = y.s → Value.agg #[.string t.name, .int .i64 t.kind, .int .i64 t.align, .slice z.a1 t.bytes.length z.c1, .int .i64 t.size, .slice z.a2 t.fixs.length z.c2] = Value.agg #[.string y.s.name, .int .i64 y.s.kind, .int .i64 y.s.align, .slice z.a1 y.s.bytes.length z.c1, .int .i64 y.s.size, .slice z.a2 y.s.fixs.length z.c2] := fun t h => by rw [h]
        rw [e z.s hyz.symm]
        exact this
      clear hp1 hp2 hy hz hmy hmz hk1 hk2 hyz hln1 hln2 hln3
      go_upto_region 6 with fail
      refine wp_region_seq (by kernel_rfl) (fun W => Below wr.heap.size wr W) (by kernel_rfl) (Below.refl _ _).drew ?_
      refine SeqV.step (.pointer (some ⟨w.heap.size, 0, none⟩)) (by rfl) (fun W hW => ?_) ?_
      · unfold Oper.wp
        simp [go_sem]
        try exact hW
      simp only [Act.put, List.setIfInBounds_toArray, List.set_cons_succ, List.set_cons_zero]
      refine SeqV.step (.slice (some ⟨b1, o1, none⟩) n c1) (by rfl) (fun W hW => ?_) ?_
      · have q := (HA0.out W hW).1; unfold Oper.wp
        simp [go_sem, q]
        try exact hW
      simp only [Act.put, List.setIfInBounds_toArray, List.set_cons_succ, List.set_cons_zero]
      refine SeqV.step (.int .i64 k) (by rfl) (fun W hW => ?_) ?_
      · unfold Oper.wp
        simp [go_sem]
        try exact hW
      simp only [Act.put, List.setIfInBounds_toArray, List.set_cons_succ, List.set_cons_zero]
      refine SeqV.step (.pointer (some ⟨b1, o1 + k * 6, none⟩)) (by rfl) (fun W hW => ?_) ?_
      · have q := hi; unfold Oper.wp
        simp [go_sem, q]
        try exact hW
      simp only [Act.put, List.setIfInBounds_toArray, List.set_cons_succ, List.set_cons_zero]
      refine SeqV.step (.agg #[.string y.s.name, .int .i64 y.s.kind, .int .i64 y.s.align, .slice y.a1 y.s.bytes.length y.c1, .int .i64 y.s.size, .slice y.a2 y.s.fixs.length y.c2]) (by rfl) (fun W hW => ?_) ?_
      · obtain ⟨p0, p1, p2, p3, p4, p5⟩ := HP1.out W hW; unfold Oper.wp
        simp [go_sem, p0, p1, p2, p3, p4, p5]
        try exact hW
      simp only [Act.put, List.setIfInBounds_toArray, List.set_cons_succ, List.set_cons_zero]
      refine SeqV.step (.pointer (some ⟨w.heap.size + 1, 0, none⟩)) (by rfl) (fun W hW => ?_) ?_
      · unfold Oper.wp
        simp [go_sem]
        try exact hW
      simp only [Act.put, List.setIfInBounds_toArray, List.set_cons_succ, List.set_cons_zero]
      refine SeqV.step (.slice (some ⟨b2, o2, none⟩) n c2) (by rfl) (fun W hW => ?_) ?_
      · have q := (HA0.out W hW).2; unfold Oper.wp
        simp [go_sem, q]
        try exact hW
      simp only [Act.put, List.setIfInBounds_toArray, List.set_cons_succ, List.set_cons_zero]
      refine SeqV.step (.int .i64 k) (by rfl) (fun W hW => ?_) ?_
      · unfold Oper.wp
        simp [go_sem]
        try exact hW
      simp only [Act.put, List.setIfInBounds_toArray, List.set_cons_succ, List.set_cons_zero]
      refine SeqV.step (.pointer (some ⟨b2, o2 + k * 6, none⟩)) (by rfl) (fun W hW => ?_) ?_
      · have q := hi; unfold Oper.wp
        simp [go_sem, q]
        try exact hW
      simp only [Act.put, List.setIfInBounds_toArray, List.set_cons_succ, List.set_cons_zero]
      refine SeqV.step (.agg #[.string z.s.name, .int .i64 z.s.kind, .int .i64 z.s.align, .slice z.a1 z.s.bytes.length z.c1, .int .i64 z.s.size, .slice z.a2 z.s.fixs.length z.c2]) (by rfl) (fun W hW => ?_) ?_
      · obtain ⟨p0, p1, p2, p3, p4, p5⟩ := HP2.out W hW; unfold Oper.wp
        simp [go_sem, p0, p1, p2, p3, p4, p5]
        try exact hW
      simp only [Act.put, List.setIfInBounds_toArray, List.set_cons_succ, List.set_cons_zero]
      refine SeqV.step (.bool true) (by rfl) (fun W hW => ?_) ?_
      · unfold Oper.wp
        simp [go_sem]
        refine (HSS.out W hW).mono ?_; rintro e w' ⟨rfl, hb⟩; exact ⟨rfl, hW.trans (hb.mono hW.size)⟩
      simp only [Act.put, List.setIfInBounds_toArray, List.set_cons_succ, List.set_cons_zero]
      refine SeqV.step (.bool false) (by rfl) (fun W hW => ?_) ?_
      · unfold Oper.wp
        simp [go_sem]
        try exact hW
      simp only [Act.put, List.setIfInBounds_toArray, List.set_cons_succ, List.set_cons_zero]
      intro W hW
      clear s0 HA0 HP1 HP2 HSS
      have HFIN := hidden (hbw.trans (hW.mono hbw.size))
      go_wp2_with fail
      go_roundw
      case rel => exact ⟨k + 1, by omega, by go_num, HFIN.out⟩
      case measure => simp [intOf]; omega
    · have hi : ¬ (k : Int) < (n : Int) := by omega
      have s1 : wr.cell? ⟨w.heap.size, 1, none⟩ = some (.slice e1 m g1) := (HC0.out wr (Below.refl _ _)).1.cell 1
      have HBW := hidden hbw
      clear hlt hk hbw HC0
      go_wp2_with fail
      clear s0 s1 hi
      go_loopw [6] (fun i wq => ∃ k : Nat, k ≤ m ∧ i = .int .i64 k ∧ Below X.heap.size X wq) (fun i _ => m - (intOf i).toNat)
      case atStart => exact ⟨0, Nat.zero_le _, rfl, HBW.out⟩
      case round =>
        obtain ⟨k, hk, rfl, hbw⟩ := hrel
        have hb := HW.out wr hbw
        have s1 : ∀ j, (wr.drewN j).cell? ⟨w.heap.size, 1, none⟩ = some (.slice e1 m g1) := fun j => ((HX1.out.below hbw HX1.out.lt).drewN j).cell 1
        have s2 : ∀ j, (wr.drewN j).cell? ⟨w.heap.size + 1, 1, none⟩ = some (.slice e2 m g2) := fun j => ((HX2.out.below hbw HX2.out.lt).drewN j).cell 1
        have s1' : wr.cell? ⟨w.heap.size, 1, none⟩ = some (.slice e1 m g1) := s1 0
        by_cases hlt : k < m
        · have hi : (k : Int) < (m : Int) := by omega
          have hll : k < ms.length := by rw [← HM.out]; exact hlt
          obtain ⟨b1, o1, rfl, _, p0, p1, p2, p3⟩ := (F1.out.below (hb.mono HB.out)).at_ hll
          obtain ⟨b2, o2, rfl, _, u0, u1, u2, u3⟩ := (F2.out.below (hb.mono HB.out)).at_ hll
          obtain ⟨f, hf⟩ : ∃ f, ms[k] = f := ⟨_, rfl⟩
          rw [hf] at p0 p1 p2 p3 u0 u1 u2 u3
          obtain ⟨x0, x1, x2, x3⟩ := f
          simp only at p0 p1 p2 p3 u0 u1 u2 u3
          have hss : (x0.toList == x0.toList) = true := beq_self_eq_true _
          have HBW := hidden hbw
          clear hf hll hbw hb
          go_wp2_with fail
          go_quiet (fail)
          go_wp2_with fail
          go_roundw
          case rel => exact ⟨k + 1, by omega, by go_num, below_drewN HBW.out _⟩
          case measure => simp [intOf]; omega
        · have hi : ¬ (k : Int) < (m : Int) := by omega
          go_wp2_with fail
          go_ret
          exact ⟨rfl, hb⟩

end Go.Proofs.Ytjpclpjhigongaa
/- The walk of FnSymbolValid, over what is wanted of the program. -/
namespace Go.Proofs.Ytjpclpjhigongaa
open Go.RowKit

theorem Sx.small.fits' {s : Sx} (h : s.small) : s.fits :=
  have := h.kind0; have := h.kind1; have := h.align0; have := h.align1; have := h.size0; have := h.size1; have := h.bytes; have := h.count; have := h.name
  ⟨by unfold maxLen; omega, ⟨by omega, by omega⟩, ⟨by omega, by omega⟩, ⟨by omega, by omega⟩, by omega, by omega, fun f hf => by
    obtain ⟨k1, k2, k3, k4, k5, k6, k7, k8⟩ := h.fixs f hf
    exact ⟨⟨by omega, by omega⟩, ⟨by omega, by omega⟩, ⟨by omega, by omega⟩, ⟨by omega, by omega⟩⟩⟩
theorem Sm.small.fits {m : Sm} (h : m.small) : m.fits :=
  have := h.name; have := h.bind0; have := h.bind1; have := h.loc0; have := h.loc1; have := h.value0; have := h.value1
  ⟨by unfold maxLen; omega, ⟨by omega, by omega⟩, ⟨by omega, by omega⟩, ⟨by omega, by omega⟩⟩
theorem symOk_behind (m : Sm) (l : List Sx) : symOk { m with loc := (l.length : Int) } l = false := by
  unfold symOk
  have h1 : ¬ (l.length : Int) = -1 := by omega
  have h2 : ¬ (l.length : Int) = -2 := by omega
  simp only [h1, h2, if_false]
  simp














































































end Go.Proofs.Ytjpclpjhigongaa

/-
  A queue of sections in memory: impl.sectionQueue's put and next, impl.inSection; the library's functions over numbers.
-/
import Derived.Test.YtdjpihbhnncahaaQueP
import Derived.Test.YtdjpihbhnncahaaRegionV
import Derived.Test.YtdjpihbhnncahaaShelf
import Derived.Sort.Grow
import Derived.BigQuiet
import Derived.Deep.QuietTactic
namespace Go.Proofs.Ytdjpihbhnncahaa
open Go.RowKit

set_option maxRecDepth 100000 in
theorem inSection_any (w : World) (y : Sm) :
    Calls Try.prog 43 #[.agg #[.string y.name, .int .i64 y.bind, .int .i64 y.loc, .int .i64 y.value]] w fun e w' => e = .returned (.bool (decide (0 ≤ y.loc))) ∧ Below w.heap.size w w' := by
  obtain ⟨nm, bd, lo, va⟩ := y
  dsimp only
  go_enter Try.func43, Try.ntmps43
  go_wp2
  go_ret
  exact ⟨rfl, (Below.refl _ _).alloc (Nat.le_refl _) _⟩
theorem vals_int {w : World} {b o : Nat} {Q : List Int} (h : ∀ i u, (Q.map (Value.int .i64))[i]? = some u → w.cell? ⟨b, o + i, none⟩ = some u) : ∀ j, j < Q.length → w.cell? ⟨b, o + j, none⟩ = some (.int .i64 (Q.getD j 0)) := fun j hj => by
  refine h j _ ?_
  rw [List.getElem?_map, List.getD_eq_getElem?_getD, List.getElem?_eq_getElem hj]; rfl
theorem containsI_any (w : World) (B : Nat) (Q : List Int) (ka : Option Addr) (nk kc : Nat) (hkv : Vals w B ka (Q.map (Value.int .i64))) (hkn : Q.length = nk) (hkm : nk ≤ 1048576) (x : Int) :
    Calls Try.prog 44 #[.slice ka nk kc, .int .i64 x] w fun e w' => e = .returned (.bool (decide (x ∈ Q))) ∧ w = w' := by
  rcases Nat.eq_zero_or_pos nk with rfl | hp
  · obtain rfl : Q = [] := List.eq_nil_of_length_eq_zero hkn
    exact (Try.slices_Contains_int_empty ka kc x w).mono fun e w' ⟨h1, h2⟩ => ⟨by rw [h1]; simp, h2.symm⟩
  · obtain ⟨b, o, rfl, _, hcc⟩ := hkv (by rw [List.length_map, hkn]; exact hp)
    refine (Try.slices_Contains_int b o nk kc Q x w (by omega) (by omega) (vals_int hcc)).mono fun e w' ⟨h1, h2⟩ => ⟨?_, h2.symm⟩
    rw [h1, List.take_of_length_le (by omega)]
    simp
/-- A queue: its block, and the row of its numbers. -/
structure QS (w W : World) (v : Value) (Q : List Int) (p : Nat) : Prop where
  below : Below w.heap.size w W
  obj : Has W w.heap.size 57 #[v, .int .i64 p]
  row : W.ownsRow w.heap.size 3 1 v Q.length (Q.map (Value.int .i64))
section
variable {w W W' : World} {v : Value} {Q : List Int} {p : Nat}
theorem QS.new (w : World) : QS w (w.alloc (.cells #[.slice none 0 0, .int .i64 0] 57)) (.slice none 0 0) [] 0 :=
  ⟨(Below.refl _ _).alloc (Nat.le_refl _) _, Has.new _ _ _, World.ownsRow_nil _ _ _ _⟩
theorem QS.only (h : QS w W v Q p) (hb : Below W.heap.size W W') : QS w W' v Q p :=
  ⟨h.below.trans (hb.mono h.below.size), h.obj.below hb h.obj.lt, h.row.kept (grown_only hb) (Classical.em _)⟩
theorem QS.alloc (h : QS w W v Q p) (o : Obj) : QS w (W.alloc o) v Q p := h.only ((Below.refl _ _).alloc (Nat.le_refl _) o)
theorem QS.drewN (h : QS w W v Q p) (n : Nat) : QS w (W.drewN n) v Q p := h.only (below_drewN (Below.refl _ _) n)
theorem QS.shape (h : QS w W v Q p) : ∃ a c, v = .slice a Q.length c := by
  rcases h.row.2 with ⟨rfl, h0⟩ | ⟨k, cap, cur, rfl, _⟩
  · exact ⟨none, 0, by rw [h0]⟩
  · exact ⟨_, _, rfl⟩
theorem QS.vals {a : Option Addr} {n c : Nat} (h : QS w W (.slice a n c) Q p) : Vals W W.heap.size a (Q.map (Value.int .i64)) := by
  have hr := h.row
  obtain ⟨a', c', e', _, hv⟩ := vals_of_own (by rw [List.length_map]; exact hr)
  injection e' with e1
  subst e1
  exact hv
/-- A number is put behind the others, and the list is stored. -/
theorem QS.app (h : QS w W v Q p) {x : Int} {v' : Value} (hg0 : W.grownBy W' v.ownBlock) (hr : W'.ownsRow w.heap.size 3 1 v' (Q.length + 1) (Q.map (Value.int .i64) ++ [.int .i64 x])) :
    Has W' w.heap.size 57 #[v, .int .i64 p] ∧ QS w (W'.setCell ⟨w.heap.size, 0, none⟩ v') v' (Q ++ [x]) p := by
  have ho : Has W' w.heap.size 57 #[v, .int .i64 p] := h.obj.grown hg0 (h.obj.other h.row (by decide))
  have hb : Below w.heap.size w W' := h.below.grown hg0 h.below.size (fun q hq => (h.row.lt q hq).1)
  have hg : W'.grownBy (W'.setCell ⟨w.heap.size, 0, none⟩ v') (some w.heap.size) := only_put' 0 _
  refine ⟨ho, hb.grown hg hb.size (by intro q hq; injection hq with hq; omega), ho.put 0 _, ?_⟩
  rw [List.length_append, List.map_append]
  exact World.ownsRow.kept hr hg (row_apart hr ho (by decide))
/-- One more has been looked at. -/
theorem QS.look (h : QS w W v Q p) : QS w (W.setCell ⟨w.heap.size, 1, none⟩ (.int .i64 ((p : Int) + 1))) v Q (p + 1) := by
  have hg : W.grownBy (W.setCell ⟨w.heap.size, 1, none⟩ (.int .i64 ((p : Int) + 1))) (some w.heap.size) := only_put' 1 _
  exact ⟨h.below.grown hg h.below.size (by intro q hq; injection hq with hq; omega), h.obj.put 1 _, h.row.kept hg (row_apart h.row h.obj (by decide))⟩
end
/-- Around a number that is put behind the others. -/
def JQ (w : World) (v : Value) (Q : List Int) (p : Nat) (bx : Nat) (ys : Array Value) (x : Int) (q : Nat) : Nat → World → (Nat → Value) → Prop
  | 0, W, _ => QS w W v Q p ∧ Has W bx 59 ys
  | 1, W, vals => QS w W v Q p ∧ ∃ g, vals 0 = .slice (some ⟨g, 0, none⟩) 1 1 ∧ Has W g 3 #[.int .i64 x]
  | 2, W, vals => ∃ a c, vals 1 = .slice a (q + 1) c ∧ Has W w.heap.size 57 #[v, .int .i64 p] ∧ QS w (W.setCell ⟨w.heap.size, 0, none⟩ (.slice a (q + 1) c)) (.slice a (q + 1) c) (Q ++ [x]) p
  | _, W, _ => ∃ a c, QS w W (.slice a (q + 1) c) (Q ++ [x]) p
theorem JQ.obj {w : World} {v : Value} {Q : List Int} {p bx : Nat} {ys : Array Value} {x : Int} {q k : Nat} {W : World} {vals : Nat → Value} (h : JQ w v Q p bx ys x q k W vals) (hk : k ≤ 1) : QS w W v Q p := by
  match k, h, hk with
  | 0, h, _ => exact h.1
  | 1, h, _ => exact h.1
set_option maxRecDepth 100000 in
set_option maxHeartbeats 2000000 in
theorem put_any (w W : World) (v : Value) (Q : List Int) (p : Nat) (h : QS w W v Q p) (y : Sm) (hq : Q.length ≤ 1000) :
    Calls Try.prog 34 #[.pointer (some ⟨w.heap.size, 0, none⟩), .agg #[.string y.name, .int .i64 y.bind, .int .i64 y.loc, .int .i64 y.value]] W fun e W' => e = .returned (.tuple #[]) ∧ ∃ v', QS w W' v' (putQ Q y.loc) p := by
  have hX : Has (W.alloc (.cells #[.string y.name, .int .i64 y.bind, .int .i64 y.loc, .int .i64 y.value] 59)) W.heap.size 59 #[.string y.name, .int .i64 y.bind, .int .i64 y.loc, .int .i64 y.value] := Has.new _ _ _
  have h1 := h.alloc (.cells #[.string y.name, .int .i64 y.bind, .int .i64 y.loc, .int .i64 y.value] 59)
  obtain ⟨a, c, rfl⟩ := h.shape
  obtain ⟨W1, hW1⟩ : ∃ q, W.alloc (.cells #[.string y.name, .int .i64 y.bind, .int .i64 y.loc, .int .i64 y.value] 59) = q := ⟨_, rfl⟩
  obtain ⟨bx, hbx⟩ : ∃ q, W.heap.size = q := ⟨_, rfl⟩
  obtain ⟨g, hg⟩ : ∃ q, w.heap.size = q := ⟨_, rfl⟩
  obtain ⟨nq, hnq⟩ : ∃ q, Q.length = q := ⟨_, rfl⟩
  rw [hW1, hbx] at hX
  rw [hW1, hnq] at h1
  rw [hnq] at hq
  have HIN : Hid (∀ W', Calls Try.prog 43 #[.agg #[.string y.name, .int .i64 y.bind, .int .i64 y.loc, .int .i64 y.value]] W' fun e w' => e = .returned (.bool (decide (0 ≤ y.loc))) ∧ Below W'.heap.size W' w') := fun W' => inSection_any W' y
  have HCO : Hid (∀ W', Below W1.heap.size W1 W' → Calls Try.prog 44 #[.slice a nq c, .int .i64 y.loc] W' fun e w' => e = .returned (.bool (decide (y.loc ∈ Q))) ∧ W' = w') := fun W' hb => containsI_any W' W1.heap.size Q a nq c (h1.vals.below hb) hnq (by omega) y.loc
  have HQ : Hid (∀ W', Below W1.heap.size W1 W' → QS w W' (.slice a nq c) Q p ∧ Has W' bx 59 #[.string y.name, .int .i64 y.bind, .int .i64 y.loc, .int .i64 y.value]) := fun W' hb => ⟨h1.only hb, hX.below hb hX.lt⟩
  have HC : Hid (∀ W', Below W1.heap.size W1 W' → W'.cell? ⟨g, 0, none⟩ = some (.slice a nq c) ∧ W'.cell? ⟨bx, 0, none⟩ = some (.string y.name) ∧ W'.cell? ⟨bx, 1, none⟩ = some (.int .i64 y.bind) ∧ W'.cell? ⟨bx, 2, none⟩ = some (.int .i64 y.loc) ∧ W'.cell? ⟨bx, 3, none⟩ = some (.int .i64 y.value)) := fun W' hb => by
    obtain ⟨q1, q2⟩ := HQ.out W' hb
    rw [← hg]
    exact ⟨q1.obj.cell 0, q2.cell 0, q2.cell 1, q2.cell 2, q2.cell 3⟩
  have HW1 := hidden hW1
  have HBX := hidden hbx
  have HGG := hidden hg
  have HNQ := hidden hnq
  rw [hg]
  clear hX h1 h hW1 hbx hg hnq
  go_enter Try.func34, Try.ntmps34
  go_upto_region 1 with fail
  rw [HW1.out, HBX.out]
  clear HW1 HBX
  refine wp_region_seq (by kernel_rfl) (fun W' => Below W1.heap.size W1 W') (by kernel_rfl) (Below.refl _ _).drew ?_
  refine SeqV.step (.agg #[.string y.name, .int .i64 y.bind, .int .i64 y.loc, .int .i64 y.value]) (by rfl) (fun W hW => ?_) ?_
  · obtain ⟨_, q0, q1, q2, q3⟩ := HC.out W hW
    unfold Oper.wp
    simp [go_sem, q0, q1, q2, q3]
    try exact hW
  simp only [Act.put, List.setIfInBounds_toArray, List.set_cons_succ, List.set_cons_zero]
  refine SeqV.step (.bool (decide (0 ≤ y.loc))) (by rfl) (fun W hW => ?_) ?_
  · unfold Oper.wp
    simp [go_sem]
    refine (HIN.out W).mono ?_
    rintro e w' ⟨rfl, hb⟩
    exact ⟨rfl, hW.trans (hb.mono hW.size)⟩
  simp only [Act.put, List.setIfInBounds_toArray, List.set_cons_succ, List.set_cons_zero]
  refine SeqV.step (.bool (decide (0 ≤ y.loc))) (by rfl) (fun W hW => ?_) ?_
  · unfold Oper.wp
    simp [go_sem]
    try exact hW
  simp only [Act.put, List.setIfInBounds_toArray, List.set_cons_succ, List.set_cons_zero]
  by_cases h0 : 0 ≤ y.loc
  · have hd0 : decide (0 ≤ y.loc) = true := decide_eq_true h0
    rw [hd0]
    refine SeqV.step (.pointer (some ⟨g, 0, none⟩)) (by rfl) (fun W hW => ?_) ?_
    · unfold Oper.wp
      simp [go_sem]
      try exact hW
    simp only [Act.put, List.setIfInBounds_toArray, List.set_cons_succ, List.set_cons_zero]
    refine SeqV.step (.pointer (some ⟨g, 0, none⟩)) (by rfl) (fun W hW => ?_) ?_
    · unfold Oper.wp
      simp [go_sem]
      try exact hW
    simp only [Act.put, List.setIfInBounds_toArray, List.set_cons_succ, List.set_cons_zero]
    refine SeqV.step (.pointer (some ⟨g, 0, none⟩)) (by rfl) (fun W hW => ?_) ?_
    · unfold Oper.wp
      simp [go_sem]
      try exact hW
    simp only [Act.put, List.setIfInBounds_toArray, List.set_cons_succ, List.set_cons_zero]
    refine SeqV.step (.slice a nq c) (by rfl) (fun W hW => ?_) ?_
    · obtain ⟨q0, _⟩ := HC.out W hW
      unfold Oper.wp
      simp [go_sem, q0]
      try exact hW
    simp only [Act.put, List.setIfInBounds_toArray, List.set_cons_succ, List.set_cons_zero]
    refine SeqV.step (.pointer (some ⟨bx, 2, none⟩)) (by rfl) (fun W hW => ?_) ?_
    · unfold Oper.wp
      simp [go_sem]
      try exact hW
    simp only [Act.put, List.setIfInBounds_toArray, List.set_cons_succ, List.set_cons_zero]
    refine SeqV.step (.int .i64 y.loc) (by rfl) (fun W hW => ?_) ?_
    · obtain ⟨_, _, _, q2, _⟩ := HC.out W hW
      unfold Oper.wp
      simp [go_sem, q2]
      try exact hW
    simp only [Act.put, List.setIfInBounds_toArray, List.set_cons_succ, List.set_cons_zero]
    refine SeqV.step (.bool (decide (y.loc ∈ Q))) (by rfl) (fun W hW => ?_) ?_
    · unfold Oper.wp
      simp [go_sem]
      refine (HCO.out W hW).mono ?_
      rintro e _ ⟨rfl, rfl⟩
      exact ⟨rfl, hW⟩
    simp only [Act.put, List.setIfInBounds_toArray, List.set_cons_succ, List.set_cons_zero]
    refine SeqV.step (.bool (!decide (y.loc ∈ Q))) (by rfl) (fun W hW => ?_) ?_
    · unfold Oper.wp
      simp [go_sem]
      try exact hW
    simp only [Act.put, List.setIfInBounds_toArray, List.set_cons_succ, List.set_cons_zero]
    refine SeqV.step (.bool (!decide (y.loc ∈ Q))) (by rfl) (fun W hW => ?_) ?_
    · unfold Oper.wp
      simp [go_sem]
      try exact hW
    simp only [Act.put, List.setIfInBounds_toArray, List.set_cons_succ, List.set_cons_zero]
    intro W2 hW2
    by_cases hin : y.loc ∈ Q
    · have hd1 : decide (y.loc ∈ Q) = true := decide_eq_true hin
      rw [hd1]
      have HF := hidden ((HQ.out W2 hW2).1)
      have HE : Hid (putQ Q y.loc = Q) := putQ_no (.inr hin)
      clear HQ HC HCO HIN hin h0 hd0 hd1
      go_wp2_with fail
      go_end0
      rw [HE.out]
      exact ⟨rfl, _, HF.out⟩
    · have hd1 : decide (y.loc ∈ Q) = false := decide_eq_false hin
      rw [hd1]
      have HE : Hid (putQ Q y.loc = Q ++ [y.loc]) := putQ_yes h0 hin
      have HJ0 : Hid (JQ w (.slice a nq c) Q p bx #[.string y.name, .int .i64 y.bind, .int .i64 y.loc, .int .i64 y.value] y.loc nq 0 W2.drew fun _ => undef) := ⟨(HQ.out W2 hW2).1.drewN 1, (HQ.out W2 hW2).2⟩
      clear HQ HC HCO HIN hin h0 hd0 hd1
      go_upto_region 2 with fail
      refine wp_region_chain (m := 3) (js := [.quiet (.pointer (some ⟨g, 0, none⟩)) 3, .quiet (.pointer (some ⟨g, 0, none⟩)) 3, .quiet (.pointer (some ⟨g, 0, none⟩)) 3, .quiet (.pointer (some ⟨g, 0, none⟩)) 3, .quiet (.slice a nq c) 1, .quiet (.pointer (some ⟨bx, 2, none⟩)) 3, .quiet (.int .i64 y.loc) 0, .chain 0, .chain 1, .quiet (.pointer (some ⟨g, 0, none⟩)) 3, .quiet (.pointer (some ⟨g, 0, none⟩)) 3, .chain 2]) (by kernel_rfl) (JQ w (.slice a nq c) Q p bx #[.string y.name, .int .i64 y.bind, .int .i64 y.loc, .int .i64 y.value] y.loc nq) (by kernel_rfl) (by kernel_rfl) ⟨_, HJ0.out⟩ (fun vals => ?_) ?_
      · show SeqW _ _ _ _ _ _ _
        refine ⟨fun kk hkk W hW => ?_, ?_⟩
        · unfold Oper.wp
          simp [go_sem]
          try exact ⟨_, rfl, rfl⟩
        simp only [Act.put, List.setIfInBounds_toArray, List.set_cons_succ, List.set_cons_zero]
        refine ⟨fun kk hkk W hW => ?_, ?_⟩
        · unfold Oper.wp
          simp [go_sem]
          try exact ⟨_, rfl, rfl⟩
        simp only [Act.put, List.setIfInBounds_toArray, List.set_cons_succ, List.set_cons_zero]
        refine ⟨fun kk hkk W hW => ?_, ?_⟩
        · unfold Oper.wp
          simp [go_sem]
          try exact ⟨_, rfl, rfl⟩
        simp only [Act.put, List.setIfInBounds_toArray, List.set_cons_succ, List.set_cons_zero]
        refine ⟨fun kk hkk W hW => ?_, ?_⟩
        · unfold Oper.wp
          simp [go_sem]
          try exact ⟨_, rfl, rfl⟩
        simp only [Act.put, List.setIfInBounds_toArray, List.set_cons_succ, List.set_cons_zero]
        refine ⟨fun kk hkk W hW => ?_, ?_⟩
        · have q : W.cell? ⟨g, 0, none⟩ = some (.slice a nq c) := by rw [← HGG.out]; exact (JQ.obj hW hkk).obj.cell 0
          unfold Oper.wp
          simp [go_sem, q]
          try exact ⟨_, rfl, rfl⟩
        simp only [Act.put, List.setIfInBounds_toArray, List.set_cons_succ, List.set_cons_zero]
        refine ⟨fun kk hkk W hW => ?_, ?_⟩
        · unfold Oper.wp
          simp [go_sem]
          try exact ⟨_, rfl, rfl⟩
        simp only [Act.put, List.setIfInBounds_toArray, List.set_cons_succ, List.set_cons_zero]
        refine ⟨fun kk hkk W hW => ?_, ?_⟩
        · obtain rfl : kk = 0 := by omega
          have q : W.cell? ⟨bx, 2, none⟩ = some (.int .i64 y.loc) := hW.2.cell 2
          unfold Oper.wp
          simp [go_sem, q]
          try exact ⟨_, rfl, rfl⟩
        simp only [Act.put, List.setIfInBounds_toArray, List.set_cons_succ, List.set_cons_zero]
        refine ⟨fun W hW => ?_, ?_⟩
        · have hN : JQ w (.slice a nq c) Q p bx #[.string y.name, .int .i64 y.bind, .int .i64 y.loc, .int .i64 y.value] y.loc nq 1 (W.alloc (.cells #[.int .i64 y.loc] 3)) (upd vals 0 (.slice (some ⟨W.heap.size, 0, none⟩) 1 1)) := ⟨hW.1.alloc _, W.heap.size, rfl, Has.new _ _ _⟩
          unfold Oper.wp
          simp [go_sem]
          first | exact hN | exact ⟨_, rfl, hN⟩
        simp only [Act.put, List.setIfInBounds_toArray, List.set_cons_succ, List.set_cons_zero]
        refine ⟨fun W hW => ?_, ?_⟩
        · obtain ⟨hW1, hb, hv, hh⟩ := hW
          refine wp_append_row _ _ 30 3 rfl _ 1 8 Try.info_int Try.underlying30 rfl (by decide) (by decide) w.heap.size (.slice a nq c) nq (Q.map (Value.int .i64)) rfl (by have := hW1.row; rwa [HNQ.out] at this) (some ⟨hb, 0, none⟩) 1 1 [.int .i64 y.loc] hv rfl (fun _ => ⟨hb, 0, rfl, fun j u hj => by rw [Nat.zero_add, hh.cell]; simpa using hj⟩) (fun u hu => by rw [List.mem_singleton.1 hu]; rfl) (by omega) hW1.below.size ?_
          intro v' w' h2 h3
          obtain ⟨b2, d2, rfl⟩ := own_shape h2
          obtain ⟨q0, q1⟩ := hW1.app (x := y.loc) h3 (by rw [HNQ.out]; exact h2)
          exact ⟨_, rfl, (⟨b2, d2, rfl, q0, q1⟩ : JQ w (.slice a nq c) Q p bx #[.string y.name, .int .i64 y.bind, .int .i64 y.loc, .int .i64 y.value] y.loc nq 2 w' (upd vals 1 (.slice b2 (nq + 1) d2)))⟩
        simp only [Act.put, List.setIfInBounds_toArray, List.set_cons_succ, List.set_cons_zero]
        refine ⟨fun kk hkk W hW => ?_, ?_⟩
        · unfold Oper.wp
          simp [go_sem]
          try exact ⟨_, rfl, rfl⟩
        simp only [Act.put, List.setIfInBounds_toArray, List.set_cons_succ, List.set_cons_zero]
        refine ⟨fun kk hkk W hW => ?_, ?_⟩
        · unfold Oper.wp
          simp [go_sem]
          try exact ⟨_, rfl, rfl⟩
        simp only [Act.put, List.setIfInBounds_toArray, List.set_cons_succ, List.set_cons_zero]
        refine ⟨fun W hW => ?_, trivial⟩
        obtain ⟨b2, d2, hv2, q1, q2⟩ := hW
        rw [HGG.out] at q1 q2
        rw [hv2]
        have ck : W.cell? ⟨g, 0, none⟩ = some (.slice a nq c) := q1.cell 0
        have fk : W.frozen? ⟨g, 0, none⟩ = false := q1.free 0
        have hN : ∀ u, JQ w (.slice a nq c) Q p bx #[.string y.name, .int .i64 y.bind, .int .i64 y.loc, .int .i64 y.value] y.loc nq 3 (W.setCell ⟨g, 0, none⟩ (.slice b2 (nq + 1) d2)) (upd vals 2 u) := fun u => ⟨b2, d2, q2⟩
        clear q1 q2
        unfold Oper.wp
        simp [go_sem, ck, fk]
        first | exact hN _ | exact ⟨undef, hN _⟩ | exact ⟨_, rfl, hN _⟩
      · intro W vals hJ
        obtain ⟨b3, d3, hK9⟩ := hJ
        simp only [putAll, List.map_cons, List.map_nil, Job.val, Act.put, List.setIfInBounds_toArray, List.set_cons_succ, List.set_cons_zero]
        have HK9 := hidden hK9
        clear hK9 HJ0
        go_wp2_with fail
        go_end0
        rw [HE.out]
        exact ⟨rfl, _, HK9.out⟩
  · have hd0 : decide (0 ≤ y.loc) = false := decide_eq_false h0
    rw [hd0]
    refine SeqV.skip (by rfl) ?_
    simp only [Act.put, List.setIfInBounds_toArray, List.set_cons_succ, List.set_cons_zero]
    refine SeqV.skip (by rfl) ?_
    simp only [Act.put, List.setIfInBounds_toArray, List.set_cons_succ, List.set_cons_zero]
    refine SeqV.skip (by rfl) ?_
    simp only [Act.put, List.setIfInBounds_toArray, List.set_cons_succ, List.set_cons_zero]
    refine SeqV.skip (by rfl) ?_
    simp only [Act.put, List.setIfInBounds_toArray, List.set_cons_succ, List.set_cons_zero]
    refine SeqV.skip (by rfl) ?_
    simp only [Act.put, List.setIfInBounds_toArray, List.set_cons_succ, List.set_cons_zero]
    refine SeqV.skip (by rfl) ?_
    simp only [Act.put, List.setIfInBounds_toArray, List.set_cons_succ, List.set_cons_zero]
    refine SeqV.skip (by rfl) ?_
    simp only [Act.put, List.setIfInBounds_toArray, List.set_cons_succ, List.set_cons_zero]
    refine SeqV.skip (by rfl) ?_
    simp only [Act.put, List.setIfInBounds_toArray, List.set_cons_succ, List.set_cons_zero]
    refine SeqV.step (.bool false) (by rfl) (fun W hW => ?_) ?_
    · unfold Oper.wp
      simp [go_sem]
      try exact hW
    simp only [Act.put, List.setIfInBounds_toArray, List.set_cons_succ, List.set_cons_zero]
    intro W2 hW2
    have HF := hidden ((HQ.out W2 hW2).1)
    have HE : Hid (putQ Q y.loc = Q) := putQ_no (.inl h0)
    clear HQ HC HCO HIN h0 hd0
    go_wp2_with fail
    go_end0
    rw [HE.out]
    exact ⟨rfl, _, HF.out⟩
set_option maxRecDepth 100000 in
theorem next_end (w W : World) (v : Value) (Q : List Int) (p : Nat) (h : QS w W v Q p) (hp : p = Q.length) (hq : Q.length ≤ 1000) :
    Calls Try.prog 35 #[.pointer (some ⟨w.heap.size, 0, none⟩)] W fun e W' => e = .returned (.tuple #[.int .i64 0, .bool false]) ∧ QS w W' v Q p := by
  obtain ⟨a, c, rfl⟩ := h.shape
  obtain ⟨nq, hnq⟩ : ∃ q, Q.length = q := ⟨_, rfl⟩
  obtain ⟨g, hg⟩ : ∃ q, w.heap.size = q := ⟨_, rfl⟩
  have HF : Hid (∀ n, QS w (W.drewN n) (.slice a nq c) Q p) := fun n => by have := h.drewN n; rwa [hnq] at this
  have e0 : ∀ q, (W.drewN q).cell? ⟨g, 0, none⟩ = some (.slice a nq c) := fun q => by rw [← hg]; exact (HF.out q).obj.cell 0
  have e1 : ∀ q, (W.drewN q).cell? ⟨g, 1, none⟩ = some (.int .i64 (p : Int)) := fun q => by rw [← hg]; exact (HF.out q).obj.cell 1
  rw [hnq] at hp hq
  subst hp
  rw [hg, hnq]
  clear h hg hnq
  go_enter Try.func35, Try.ntmps35
  go_upto_region 1 with fail
  go_quiet (fail)
  go_wp2_with fail
  refine bodyPost_ret (results_tmp2 rfl _ _ _) rfl ?_
  exact ⟨rfl, HF.out _⟩
set_option maxRecDepth 100000 in
theorem next_more (w W : World) (v : Value) (Q : List Int) (p : Nat) (h : QS w W v Q p) (x : Int) (hx : Q[p]? = some x) (hq : Q.length ≤ 1000) :
    Calls Try.prog 35 #[.pointer (some ⟨w.heap.size, 0, none⟩)] W fun e W' => e = .returned (.tuple #[.int .i64 x, .bool true]) ∧ QS w W' v Q (p + 1) := by
  have hp := (List.getElem?_eq_some_iff.1 hx).1
  obtain ⟨a, c, rfl⟩ := h.shape
  obtain ⟨b, o, rfl, _, hc⟩ := h.vals (by rw [List.length_map]; omega)
  have hcx := hc p _ (by rw [List.getElem?_map, hx]; rfl)
  obtain ⟨nq, hnq⟩ : ∃ q, Q.length = q := ⟨_, rfl⟩
  obtain ⟨g, hg⟩ : ∃ q, w.heap.size = q := ⟨_, rfl⟩
  have HF : Hid (∀ n, QS w ((W.drewN n).setCell ⟨g, 1, none⟩ (.int .i64 ((p : Int) + 1))) (.slice (some ⟨b, o, none⟩) nq c) Q (p + 1)) := fun n => by have := (h.drewN n).look; rwa [hnq, hg] at this
  have e0 : ∀ q, (W.drewN q).cell? ⟨g, 0, none⟩ = some (.slice (some ⟨b, o, none⟩) nq c) := fun q => by rw [← hg, ← hnq]; exact (h.drewN q).obj.cell 0
  have e1 : ∀ q, (W.drewN q).cell? ⟨g, 1, none⟩ = some (.int .i64 (p : Int)) := fun q => by rw [← hg]; exact (h.drewN q).obj.cell 1
  have e2 : ∀ q, (W.drewN q).cell? ⟨b, o + p, none⟩ = some (.int .i64 x) := fun q => hcx
  have e3 : ∀ q, (W.drewN q).frozen? ⟨g, 1, none⟩ = false := fun q => by rw [← hg]; exact (h.drewN q).obj.free 1
  rw [hnq] at hp hq
  have hi : (p : Int) < (nq : Int) := by omega
  have hne : ((p : Int) == (nq : Int)) = false := by simp; omega
  rw [hg, hnq]
  clear h hg hnq hc hcx hx
  go_enter Try.func35, Try.ntmps35
  go_upto_region 1 with fail
  go_quiet (fail)
  go_upto_region 3 with fail
  go_quiet (fail)
  go_wp2_with fail
  refine bodyPost_ret (results_tmp2 rfl _ _ _) rfl ?_
  exact ⟨rfl, HF.out _⟩

end Go.Proofs.Ytdjpihbhnncahaa

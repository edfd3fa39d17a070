/-
  impl.PutHeader: the bytes of a header, field by field out of its table.
-/
import Derived.Test.YtjafekjcncmjjaaGreatFieldsI
import Derived.Test.YtjafekjcncmjjaaGreatRowI
namespace Go.Proofs.YtjafekjcncmjjaaGreat
open Go.RowKit

/-- A number's bytes, the row with them, and the variable. -/
structure JP (wT : World) (b : Nat) (t : TypeId) (cs : Array Value) (v : Value) (N : Nat) (L : List Int) (m : Nat) (nb : List Int) (k : Nat) (W : World) (vals : Nat → Value) : Prop where
  cs : CS wT W b t cs
  row : k ≤ 1 → RowE W wT.heap.size v N L
  num : k = 1 → ∃ ad c, vals 0 = .slice ad m c ∧ Ints W .u8 W.heap.size ad nb
  app : k = 2 → RowI W wT.heap.size (vals 1) (N + m) (L ++ nb)
  fin : k = 3 → RowI W wT.heap.size (vals 2) (N + m) (L ++ nb)
/-- A header's bytes behind k fields, but for the last byte 0. -/
def hdPart (x0 x1 x2 x3 : Int) : Nat → List Int
  | 0 => [111, 98, 106, 1]
  | 1 => [111, 98, 106, 1, x0]
  | 2 => [111, 98, 106, 1, x0, x1]
  | 3 => [111, 98, 106, 1, x0, x1, x2]
  | _ => [111, 98, 106, 1, x0, x1, x2, x3 % 256, x3 / 256]
theorem putNumber_ints (n k : Int) (m : Nat) (nb : List Int) (hp : putList n k = nb) (hm : nb.length = m) (w : World) :
    Calls Tryz.prog 73 #[.int .i64 n, .int .i64 k] w fun e w' => ∃ ad c, e = .returned (.slice ad m c) ∧ Ints w' .u8 w'.heap.size ad nb ∧ Below w.heap.size w w' :=
  (putNumber_any n k w).mono fun e w' ⟨a, he, ho, hb⟩ => ⟨a, m, by rw [he, hp, hm], by rw [← hp]; exact ho.ints, hb⟩
set_option maxRecDepth 100000 in
set_option maxHeartbeats 4000000 in
theorem putHeader_any (w : World) (h : Hd) : Calls Tryz.prog 51 #[h.agg] w (RowB w (putHd h)) := by
  obtain ⟨x0, x1, x2, x3⟩ := h
  obtain ⟨l, hl⟩ : ∃ l, putHd ⟨x0, x1, x2, x3⟩ = l := ⟨_, rfl⟩
  have HL := hidden hl
  have HV := hidden (fun W => headerValid_any W ⟨x0, x1, x2, x3⟩)
  rw [hl]
  unfold Hd.agg at *
  clear hl
  have hB : Below w.heap.size w (w.alloc (.cells #[.int .i64 x0, .int .i64 x1, .int .i64 x2, .int .i64 x3] 48)) := (Below.refl _ _).alloc (Nat.le_refl _) _
  have hx0 : Has (w.alloc (.cells #[.int .i64 x0, .int .i64 x1, .int .i64 x2, .int .i64 x3] 48)) w.heap.size 48 #[.int .i64 x0, .int .i64 x1, .int .i64 x2, .int .i64 x3] := Has.new _ _ _
  have c0 := hx0.cell 0
  have c1 := hx0.cell 1
  have c2 := hx0.cell 2
  have c3 := hx0.cell 3
  obtain ⟨ok, hok⟩ : ∃ q, hdOk ⟨x0, x1, x2, x3⟩ = q := ⟨_, rfl⟩
  rw [hok] at HV
  have HOK := hidden hok
  have HX0 := hidden hx0
  clear hok hx0
  go_enter Tryz.func51, Tryz.ntmps51
  go_wp2_with fail
  refine (HV.out _).mono ?_
  clear HV
  rintro e w1 ⟨rfl, hb1⟩
  have hx1 : Has w1 w.heap.size 48 #[.int .i64 x0, .int .i64 x1, .int .i64 x2, .int .i64 x3] := HX0.out.below hb1 (by simp)
  have HX1 := hidden hx1
  have HB1 := hidden (hB.trans (hb1.mono hB.size))
  clear hb1 hB hx1 HX0 c0 c1 c2 c3
  rcases ok with _ | _
  · have HE : Hid ([] = l) := by show _ = _; rw [← HL.out]; unfold putHd; rw [HOK.out]; rfl
    go_wp2_with fail
    go_ret
    refine ⟨_, rfl, ?_, HB1.out⟩
    rw [← HE.out]
    exact ⟨rfl, .inl ⟨rfl, rfl⟩⟩
  obtain ⟨h1, h2, h3, h4⟩ : (0 ≤ x0 ∧ x0 ≤ 8) ∧ (0 ≤ x1 ∧ x1 ≤ 12) ∧ (0 ≤ x2 ∧ x2 ≤ 48) ∧ 1 ≤ x3 ∧ x3 ≤ 400 := hdOk_iff.1 HOK.out
  have HE : Hid (l = hdPart x0 x1 x2 x3 4 ++ [0]) := by show _ = _; rw [← HL.out]; unfold putHd; rw [HOK.out]; rfl
  have HP0 : Hid (putList x0 1 = [x0]) := by show _ = _; rw [putList_yes (by omega) (by omega) (by omega) (by show x0 < 256; omega)]; exact bytesOf_1 x0 (by omega) (by omega)
  have HP1 : Hid (putList x1 1 = [x1]) := by show _ = _; rw [putList_yes (by omega) (by omega) (by omega) (by show x1 < 256; omega)]; exact bytesOf_1 x1 (by omega) (by omega)
  have HP2 : Hid (putList x2 1 = [x2]) := by show _ = _; rw [putList_yes (by omega) (by omega) (by omega) (by show x2 < 256; omega)]; exact bytesOf_1 x2 (by omega) (by omega)
  have HP3 : Hid (putList x3 2 = [x3 % 256, x3 / 256]) := by show _ = _; rw [putList_yes (by omega) (by omega) (by omega) (by show x3 < 65536; omega)]; exact bytesOf_2 x3 (by omega) (by omega)
  clear HL HOK h1 h2 h3 h4
  have kc := fun (w : World) (C : Array Value) (n c : Nat) => Lib.run_convert_bytes_const (P := Tryz.prog) w 27 5 C n c Tryz.underlying27 Tryz.underlying5
  have hcl : ∀ i, i < (hdPart x0 x1 x2 x3 0).length → (w1.alloc (.cells #[.int .u8 111, .int .u8 98, .int .u8 106, .int .u8 1] 5 (4, 5))).cell? ⟨w1.heap.size, i, none⟩ = some (.int .u8 ((hdPart x0 x1 x2 x3 0).getD i 0)) := fun i hi => by
    have hh : (w1.alloc (.cells #[.int .u8 111, .int .u8 98, .int .u8 106, .int .u8 1] 5 (4, 5))).heap[w1.heap.size]? = some (.cells #[.int .u8 111, .int .u8 98, .int .u8 106, .int .u8 1] 5 (4, 5)) := heap_alloc_new w1 _
    rw [cell_of_row _ _ _ _ _ _ hh]
    have hi4 : i < 4 := hi
    have hc : i = 0 ∨ i = 1 ∨ i = 2 ∨ i = 3 := by omega
    rcases hc with rfl | rfl | rfl | rfl <;> rfl
  have hrow0 : RowE (w1.alloc (.cells #[.int .u8 111, .int .u8 98, .int .u8 106, .int .u8 1] 5 (4, 5))) w1.heap.size (.slice (some ⟨w1.heap.size, 0, none⟩) 4 4) 4 (hdPart x0 x1 x2 x3 0) := .inr ⟨rfl, w1.heap.size, rfl, by simp, hcl⟩
  have hb0 : Below w1.heap.size w1 (w1.alloc (.cells #[.int .u8 111, .int .u8 98, .int .u8 106, .int .u8 1] 5 (4, 5))) := (Below.refl _ _).alloc (Nat.le_refl _) _
  go_wp2_with fail
  refine (fieldsOf_any _ _).mono ?_
  rintro e w2 ⟨rfl, hb2⟩
  have hrow2 := hidden (hrow0.only hb2)
  have hbw2 := hidden (hb0.trans (hb2.mono hb0.size))
  clear hrow0 hb0 hb2 kc hcl
  go_wp2_with fail
  go_loopw [3, 12] (fun v i wr => ∃ (k g cp N : Nat) (L : List Int), v = .slice (some ⟨g, 0, none⟩) N cp ∧ i = .int .i64 k ∧ k ≤ 4 ∧ Hid (RowE wr w1.heap.size (.slice (some ⟨g, 0, none⟩) N cp) N L) ∧ Hid (L = hdPart x0 x1 x2 x3 k) ∧ 0 < N ∧ N ≤ 4 + 2 * k ∧ Below w1.heap.size w1 wr) (fun _ i _ => 4 - (intOf i).toNat)
  case atStart => exact ⟨0, _, _, _, _, rfl, rfl, by omega, hrow2, hidden rfl, by omega, by omega, hbw2.out⟩
  case round =>
    obtain ⟨k, g, cp, N, L, rfl, rfl, hk, hrow, hL, hN0, hN1, hbw⟩ := hrel
    clear hrow2 hbw2
    have hc : k = 0 ∨ k = 1 ∨ k = 2 ∨ k = 3 ∨ k = 4 := by omega
    rcases hc with rfl | rfl | rfl | rfl | rfl
    · have hix : ∀ W : World, (Instr.index 112 (.agg #[.pointer (some ⟨w.heap.size, 0, none⟩), .int .i64 1, .int .i64 0, .int .i64 8, .pointer (some ⟨w.heap.size, 1, none⟩), .int .i64 1, .int .i64 0, .int .i64 12, .pointer (some ⟨w.heap.size, 2, none⟩), .int .i64 1, .int .i64 0, .int .i64 48, .pointer (some ⟨w.heap.size, 3, none⟩), .int .i64 2, .int .i64 1, .int .i64 400]) (.int .i64 0)).run Tryz.prog W = .ok (.agg #[.pointer (some ⟨w.heap.size, 0, none⟩), .int .i64 1, .int .i64 0, .int .i64 8]) W := fun _ => by kernel_rfl
      have HPN := hidden (putNumber_ints x0 1 1 [x0] HP0.out rfl)
      have hJ0 : Hid (JP w1 wr.heap.size 111 #[.pointer (some ⟨w.heap.size, 0, none⟩), .int .i64 1, .int .i64 0, .int .i64 8] (.slice (some ⟨g, 0, none⟩) N cp) N L 1 [x0] 0 (wr.alloc (.cells #[.pointer (some ⟨w.heap.size, 0, none⟩), .int .i64 1, .int .i64 0, .int .i64 8] 111)).drew fun _ => undef) := ⟨⟨(hbw.alloc hbw.size _).drew, (Has.new _ _ _).drew⟩, fun _ => (hrow.out.alloc _).drew, fun h => absurd h (by decide), fun h => absurd h (by decide), fun h => absurd h (by decide)⟩
      clear hrow hbw
      go_upto_region 7 with fail
      refine wp_region_chain (m := 3) (js := [.quiet (.slice (some ⟨g, 0, none⟩) N cp) 3, .quiet (.pointer (some ⟨wr.heap.size, 0, none⟩)) 3, .quiet (.pointer (some ⟨w.heap.size, 0, none⟩)) 3, .quiet (.pointer (some ⟨w.heap.size, 0, none⟩)) 3, .quiet (.int .i64 x0) 3, .quiet (.pointer (some ⟨wr.heap.size, 1, none⟩)) 3, .quiet (.int .i64 1) 3, .chain 0, .chain 1, .chain 2]) (by kernel_rfl) (JP w1 wr.heap.size 111 #[.pointer (some ⟨w.heap.size, 0, none⟩), .int .i64 1, .int .i64 0, .int .i64 8] (.slice (some ⟨g, 0, none⟩) N cp) N L 1 [x0]) (by kernel_rfl) (by kernel_rfl) ⟨_, hJ0.out⟩ (fun vals => ?_) ?_
      · show SeqW _ _ _ _ _ _ _
        refine ⟨fun kk hkk W hW => ?_, ?_⟩
        · unfold Oper.wp
          simp [go_sem]
          try exact ⟨_, rfl, rfl⟩
        simp only [Act.put, List.setIfInBounds_toArray, List.set_cons_succ, List.set_cons_zero]
        refine ⟨fun kk hkk W hW => ?_, ?_⟩
        · unfold Oper.wp
          simp [go_sem]
          try exact ⟨_, rfl, rfl⟩
        simp only [Act.put, List.setIfInBounds_toArray, List.set_cons_succ, List.set_cons_zero]
        refine ⟨fun kk hkk W hW => ?_, ?_⟩
        · have q : W.cell? ⟨wr.heap.size, 0, none⟩ = some (.pointer (some ⟨w.heap.size, 0, none⟩)) := hW.cs.has.cell 0
          unfold Oper.wp
          simp [go_sem, q]
          try exact ⟨_, rfl, rfl⟩
        simp only [Act.put, List.setIfInBounds_toArray, List.set_cons_succ, List.set_cons_zero]
        refine ⟨fun kk hkk W hW => ?_, ?_⟩
        · unfold Oper.wp
          simp [go_sem]
          try exact ⟨_, rfl, rfl⟩
        simp only [Act.put, List.setIfInBounds_toArray, List.set_cons_succ, List.set_cons_zero]
        refine ⟨fun kk hkk W hW => ?_, ?_⟩
        · have q : W.cell? ⟨w.heap.size, 0, none⟩ = some (.int .i64 x0) := (HX1.out.below hW.cs.below HX1.out.lt).cell 0
          unfold Oper.wp
          simp [go_sem, q]
          try exact ⟨_, rfl, rfl⟩
        simp only [Act.put, List.setIfInBounds_toArray, List.set_cons_succ, List.set_cons_zero]
        refine ⟨fun kk hkk W hW => ?_, ?_⟩
        · unfold Oper.wp
          simp [go_sem]
          try exact ⟨_, rfl, rfl⟩
        simp only [Act.put, List.setIfInBounds_toArray, List.set_cons_succ, List.set_cons_zero]
        refine ⟨fun kk hkk W hW => ?_, ?_⟩
        · have q : W.cell? ⟨wr.heap.size, 1, none⟩ = some (.int .i64 1) := hW.cs.has.cell 1
          unfold Oper.wp
          simp [go_sem, q]
          try exact ⟨_, rfl, rfl⟩
        simp only [Act.put, List.setIfInBounds_toArray, List.set_cons_succ, List.set_cons_zero]
        refine ⟨fun W hW => ?_, ?_⟩
        · unfold Oper.wp
          simp [go_sem]
          refine (HPN.out W).mono ?_
          rintro e w' ⟨ad, c, rfl, hi, hb⟩
          have hN : JP w1 wr.heap.size 111 #[.pointer (some ⟨w.heap.size, 0, none⟩), .int .i64 1, .int .i64 0, .int .i64 8] (.slice (some ⟨g, 0, none⟩) N cp) N L 1 [x0] 1 w' (upd vals 0 (.slice ad 1 c)) := ⟨hW.cs.call hb, fun _ => (hW.row (by decide)).only hb, fun _ => ⟨ad, c, rfl, hi⟩, fun h => absurd h (by decide), fun h => absurd h (by decide)⟩
          first | exact hN | exact ⟨_, rfl, hN⟩
        simp only [Act.put, List.setIfInBounds_toArray, List.set_cons_succ, List.set_cons_zero]
        refine ⟨fun W hW => ?_, ?_⟩
        · obtain ⟨ad, c, hv, hi⟩ := hW.num rfl
          refine wp_append_e _ _ rfl w1.heap.size (.slice (some ⟨g, 0, none⟩) N cp) N L rfl (hW.row (by decide)) ad 1 c W.heap.size [x0] rfl (by decide) hv hi (by omega) hW.cs.below.size (fun v' w' h1 h2 h3 => ?_)
          have hN : JP w1 wr.heap.size 111 #[.pointer (some ⟨w.heap.size, 0, none⟩), .int .i64 1, .int .i64 0, .int .i64 8] (.slice (some ⟨g, 0, none⟩) N cp) N L 1 [x0] 2 w' (upd vals 1 v') := ⟨⟨h2 _ hW.cs.below hW.cs.below.size, h3 _ _ _ (by decide) hW.cs.has⟩, fun h => absurd h (by decide), fun h => absurd h (by decide), fun _ => h1, fun h => absurd h (by decide)⟩
          exact ⟨_, rfl, hN⟩
        simp only [Act.put, List.setIfInBounds_toArray, List.set_cons_succ, List.set_cons_zero]
        refine ⟨fun W hW => ?_, trivial⟩
        have hN : JP w1 wr.heap.size 111 #[.pointer (some ⟨w.heap.size, 0, none⟩), .int .i64 1, .int .i64 0, .int .i64 8] (.slice (some ⟨g, 0, none⟩) N cp) N L 1 [x0] 3 W (upd vals 2 (vals 1)) := ⟨hW.cs, fun h => absurd h (by decide), fun h => absurd h (by decide), fun h => absurd h (by decide), fun _ => hW.app rfl⟩
        unfold Oper.wp
        simp [go_sem]
        first | exact hN | exact ⟨_, rfl, hN⟩
      · intro W vals hJ
        have row7 := hJ.fin rfl
        obtain ⟨ge, cpe, hve⟩ := row7.shape (by omega)
        have hbW := hJ.cs.below
        simp only [putAll, List.map_cons, List.map_nil, Job.val, Act.put, List.setIfInBounds_toArray, List.set_cons_succ, List.set_cons_zero]
        rw [hve] at row7 ⊢
        obtain ⟨Ne, hNe⟩ : ∃ q, N + 1 = q := ⟨_, rfl⟩
        rw [hNe] at row7 ⊢
        have HROW7 := hidden row7
        have HEQ : Hid (L ++ [x0] = hdPart x0 x1 x2 x3 1) := by show _ = _; rw [hL.out]; rfl
        have hNb : Ne ≤ 4 + 2 * 1 := by omega
        have hNe0 : 0 < Ne := by omega
        clear hve hJ row7 hNe hJ0 HPN hix hL
        go_wp2_with fail
        go_roundw
        case rel => exact ⟨1, ge, cpe, Ne, _, rfl, by go_num, by omega, hidden (.inl HROW7.out), HEQ, hNe0, hNb, hbW⟩
        case measure => simp [intOf]
    · have hix : ∀ W : World, (Instr.index 112 (.agg #[.pointer (some ⟨w.heap.size, 0, none⟩), .int .i64 1, .int .i64 0, .int .i64 8, .pointer (some ⟨w.heap.size, 1, none⟩), .int .i64 1, .int .i64 0, .int .i64 12, .pointer (some ⟨w.heap.size, 2, none⟩), .int .i64 1, .int .i64 0, .int .i64 48, .pointer (some ⟨w.heap.size, 3, none⟩), .int .i64 2, .int .i64 1, .int .i64 400]) (.int .i64 1)).run Tryz.prog W = .ok (.agg #[.pointer (some ⟨w.heap.size, 1, none⟩), .int .i64 1, .int .i64 0, .int .i64 12]) W := fun _ => by kernel_rfl
      have HPN := hidden (putNumber_ints x1 1 1 [x1] HP1.out rfl)
      have hJ0 : Hid (JP w1 wr.heap.size 111 #[.pointer (some ⟨w.heap.size, 1, none⟩), .int .i64 1, .int .i64 0, .int .i64 12] (.slice (some ⟨g, 0, none⟩) N cp) N L 1 [x1] 0 (wr.alloc (.cells #[.pointer (some ⟨w.heap.size, 1, none⟩), .int .i64 1, .int .i64 0, .int .i64 12] 111)).drew fun _ => undef) := ⟨⟨(hbw.alloc hbw.size _).drew, (Has.new _ _ _).drew⟩, fun _ => (hrow.out.alloc _).drew, fun h => absurd h (by decide), fun h => absurd h (by decide), fun h => absurd h (by decide)⟩
      clear hrow hbw
      go_upto_region 7 with fail
      refine wp_region_chain (m := 3) (js := [.quiet (.slice (some ⟨g, 0, none⟩) N cp) 3, .quiet (.pointer (some ⟨wr.heap.size, 0, none⟩)) 3, .quiet (.pointer (some ⟨w.heap.size, 1, none⟩)) 3, .quiet (.pointer (some ⟨w.heap.size, 1, none⟩)) 3, .quiet (.int .i64 x1) 3, .quiet (.pointer (some ⟨wr.heap.size, 1, none⟩)) 3, .quiet (.int .i64 1) 3, .chain 0, .chain 1, .chain 2]) (by kernel_rfl) (JP w1 wr.heap.size 111 #[.pointer (some ⟨w.heap.size, 1, none⟩), .int .i64 1, .int .i64 0, .int .i64 12] (.slice (some ⟨g, 0, none⟩) N cp) N L 1 [x1]) (by kernel_rfl) (by kernel_rfl) ⟨_, hJ0.out⟩ (fun vals => ?_) ?_
      · show SeqW _ _ _ _ _ _ _
        refine ⟨fun kk hkk W hW => ?_, ?_⟩
        · unfold Oper.wp
          simp [go_sem]
          try exact ⟨_, rfl, rfl⟩
        simp only [Act.put, List.setIfInBounds_toArray, List.set_cons_succ, List.set_cons_zero]
        refine ⟨fun kk hkk W hW => ?_, ?_⟩
        · unfold Oper.wp
          simp [go_sem]
          try exact ⟨_, rfl, rfl⟩
        simp only [Act.put, List.setIfInBounds_toArray, List.set_cons_succ, List.set_cons_zero]
        refine ⟨fun kk hkk W hW => ?_, ?_⟩
        · have q : W.cell? ⟨wr.heap.size, 0, none⟩ = some (.pointer (some ⟨w.heap.size, 1, none⟩)) := hW.cs.has.cell 0
          unfold Oper.wp
          simp [go_sem, q]
          try exact ⟨_, rfl, rfl⟩
        simp only [Act.put, List.setIfInBounds_toArray, List.set_cons_succ, List.set_cons_zero]
        refine ⟨fun kk hkk W hW => ?_, ?_⟩
        · unfold Oper.wp
          simp [go_sem]
          try exact ⟨_, rfl, rfl⟩
        simp only [Act.put, List.setIfInBounds_toArray, List.set_cons_succ, List.set_cons_zero]
        refine ⟨fun kk hkk W hW => ?_, ?_⟩
        · have q : W.cell? ⟨w.heap.size, 1, none⟩ = some (.int .i64 x1) := (HX1.out.below hW.cs.below HX1.out.lt).cell 1
          unfold Oper.wp
          simp [go_sem, q]
          try exact ⟨_, rfl, rfl⟩
        simp only [Act.put, List.setIfInBounds_toArray, List.set_cons_succ, List.set_cons_zero]
        refine ⟨fun kk hkk W hW => ?_, ?_⟩
        · unfold Oper.wp
          simp [go_sem]
          try exact ⟨_, rfl, rfl⟩
        simp only [Act.put, List.setIfInBounds_toArray, List.set_cons_succ, List.set_cons_zero]
        refine ⟨fun kk hkk W hW => ?_, ?_⟩
        · have q : W.cell? ⟨wr.heap.size, 1, none⟩ = some (.int .i64 1) := hW.cs.has.cell 1
          unfold Oper.wp
          simp [go_sem, q]
          try exact ⟨_, rfl, rfl⟩
        simp only [Act.put, List.setIfInBounds_toArray, List.set_cons_succ, List.set_cons_zero]
        refine ⟨fun W hW => ?_, ?_⟩
        · unfold Oper.wp
          simp [go_sem]
          refine (HPN.out W).mono ?_
          rintro e w' ⟨ad, c, rfl, hi, hb⟩
          have hN : JP w1 wr.heap.size 111 #[.pointer (some ⟨w.heap.size, 1, none⟩), .int .i64 1, .int .i64 0, .int .i64 12] (.slice (some ⟨g, 0, none⟩) N cp) N L 1 [x1] 1 w' (upd vals 0 (.slice ad 1 c)) := ⟨hW.cs.call hb, fun _ => (hW.row (by decide)).only hb, fun _ => ⟨ad, c, rfl, hi⟩, fun h => absurd h (by decide), fun h => absurd h (by decide)⟩
          first | exact hN | exact ⟨_, rfl, hN⟩
        simp only [Act.put, List.setIfInBounds_toArray, List.set_cons_succ, List.set_cons_zero]
        refine ⟨fun W hW => ?_, ?_⟩
        · obtain ⟨ad, c, hv, hi⟩ := hW.num rfl
          refine wp_append_e _ _ rfl w1.heap.size (.slice (some ⟨g, 0, none⟩) N cp) N L rfl (hW.row (by decide)) ad 1 c W.heap.size [x1] rfl (by decide) hv hi (by omega) hW.cs.below.size (fun v' w' h1 h2 h3 => ?_)
          have hN : JP w1 wr.heap.size 111 #[.pointer (some ⟨w.heap.size, 1, none⟩), .int .i64 1, .int .i64 0, .int .i64 12] (.slice (some ⟨g, 0, none⟩) N cp) N L 1 [x1] 2 w' (upd vals 1 v') := ⟨⟨h2 _ hW.cs.below hW.cs.below.size, h3 _ _ _ (by decide) hW.cs.has⟩, fun h => absurd h (by decide), fun h => absurd h (by decide), fun _ => h1, fun h => absurd h (by decide)⟩
          exact ⟨_, rfl, hN⟩
        simp only [Act.put, List.setIfInBounds_toArray, List.set_cons_succ, List.set_cons_zero]
        refine ⟨fun W hW => ?_, trivial⟩
        have hN : JP w1 wr.heap.size 111 #[.pointer (some ⟨w.heap.size, 1, none⟩), .int .i64 1, .int .i64 0, .int .i64 12] (.slice (some ⟨g, 0, none⟩) N cp) N L 1 [x1] 3 W (upd vals 2 (vals 1)) := ⟨hW.cs, fun h => absurd h (by decide), fun h => absurd h (by decide), fun h => absurd h (by decide), fun _ => hW.app rfl⟩
        unfold Oper.wp
        simp [go_sem]
        first | exact hN | exact ⟨_, rfl, hN⟩
      · intro W vals hJ
        have row7 := hJ.fin rfl
        obtain ⟨ge, cpe, hve⟩ := row7.shape (by omega)
        have hbW := hJ.cs.below
        simp only [putAll, List.map_cons, List.map_nil, Job.val, Act.put, List.setIfInBounds_toArray, List.set_cons_succ, List.set_cons_zero]
        rw [hve] at row7 ⊢
        obtain ⟨Ne, hNe⟩ : ∃ q, N + 1 = q := ⟨_, rfl⟩
        rw [hNe] at row7 ⊢
        have HROW7 := hidden row7
        have HEQ : Hid (L ++ [x1] = hdPart x0 x1 x2 x3 2) := by show _ = _; rw [hL.out]; rfl
        have hNb : Ne ≤ 4 + 2 * 2 := by omega
        have hNe0 : 0 < Ne := by omega
        clear hve hJ row7 hNe hJ0 HPN hix hL
        go_wp2_with fail
        go_roundw
        case rel => exact ⟨2, ge, cpe, Ne, _, rfl, by go_num, by omega, hidden (.inl HROW7.out), HEQ, hNe0, hNb, hbW⟩
        case measure => simp [intOf]
    · have hix : ∀ W : World, (Instr.index 112 (.agg #[.pointer (some ⟨w.heap.size, 0, none⟩), .int .i64 1, .int .i64 0, .int .i64 8, .pointer (some ⟨w.heap.size, 1, none⟩), .int .i64 1, .int .i64 0, .int .i64 12, .pointer (some ⟨w.heap.size, 2, none⟩), .int .i64 1, .int .i64 0, .int .i64 48, .pointer (some ⟨w.heap.size, 3, none⟩), .int .i64 2, .int .i64 1, .int .i64 400]) (.int .i64 2)).run Tryz.prog W = .ok (.agg #[.pointer (some ⟨w.heap.size, 2, none⟩), .int .i64 1, .int .i64 0, .int .i64 48]) W := fun _ => by kernel_rfl
      have HPN := hidden (putNumber_ints x2 1 1 [x2] HP2.out rfl)
      have hJ0 : Hid (JP w1 wr.heap.size 111 #[.pointer (some ⟨w.heap.size, 2, none⟩), .int .i64 1, .int .i64 0, .int .i64 48] (.slice (some ⟨g, 0, none⟩) N cp) N L 1 [x2] 0 (wr.alloc (.cells #[.pointer (some ⟨w.heap.size, 2, none⟩), .int .i64 1, .int .i64 0, .int .i64 48] 111)).drew fun _ => undef) := ⟨⟨(hbw.alloc hbw.size _).drew, (Has.new _ _ _).drew⟩, fun _ => (hrow.out.alloc _).drew, fun h => absurd h (by decide), fun h => absurd h (by decide), fun h => absurd h (by decide)⟩
      clear hrow hbw
      go_upto_region 7 with fail
      refine wp_region_chain (m := 3) (js := [.quiet (.slice (some ⟨g, 0, none⟩) N cp) 3, .quiet (.pointer (some ⟨wr.heap.size, 0, none⟩)) 3, .quiet (.pointer (some ⟨w.heap.size, 2, none⟩)) 3, .quiet (.pointer (some ⟨w.heap.size, 2, none⟩)) 3, .quiet (.int .i64 x2) 3, .quiet (.pointer (some ⟨wr.heap.size, 1, none⟩)) 3, .quiet (.int .i64 1) 3, .chain 0, .chain 1, .chain 2]) (by kernel_rfl) (JP w1 wr.heap.size 111 #[.pointer (some ⟨w.heap.size, 2, none⟩), .int .i64 1, .int .i64 0, .int .i64 48] (.slice (some ⟨g, 0, none⟩) N cp) N L 1 [x2]) (by kernel_rfl) (by kernel_rfl) ⟨_, hJ0.out⟩ (fun vals => ?_) ?_
      · show SeqW _ _ _ _ _ _ _
        refine ⟨fun kk hkk W hW => ?_, ?_⟩
        · unfold Oper.wp
          simp [go_sem]
          try exact ⟨_, rfl, rfl⟩
        simp only [Act.put, List.setIfInBounds_toArray, List.set_cons_succ, List.set_cons_zero]
        refine ⟨fun kk hkk W hW => ?_, ?_⟩
        · unfold Oper.wp
          simp [go_sem]
          try exact ⟨_, rfl, rfl⟩
        simp only [Act.put, List.setIfInBounds_toArray, List.set_cons_succ, List.set_cons_zero]
        refine ⟨fun kk hkk W hW => ?_, ?_⟩
        · have q : W.cell? ⟨wr.heap.size, 0, none⟩ = some (.pointer (some ⟨w.heap.size, 2, none⟩)) := hW.cs.has.cell 0
          unfold Oper.wp
          simp [go_sem, q]
          try exact ⟨_, rfl, rfl⟩
        simp only [Act.put, List.setIfInBounds_toArray, List.set_cons_succ, List.set_cons_zero]
        refine ⟨fun kk hkk W hW => ?_, ?_⟩
        · unfold Oper.wp
          simp [go_sem]
          try exact ⟨_, rfl, rfl⟩
        simp only [Act.put, List.setIfInBounds_toArray, List.set_cons_succ, List.set_cons_zero]
        refine ⟨fun kk hkk W hW => ?_, ?_⟩
        · have q : W.cell? ⟨w.heap.size, 2, none⟩ = some (.int .i64 x2) := (HX1.out.below hW.cs.below HX1.out.lt).cell 2
          unfold Oper.wp
          simp [go_sem, q]
          try exact ⟨_, rfl, rfl⟩
        simp only [Act.put, List.setIfInBounds_toArray, List.set_cons_succ, List.set_cons_zero]
        refine ⟨fun kk hkk W hW => ?_, ?_⟩
        · unfold Oper.wp
          simp [go_sem]
          try exact ⟨_, rfl, rfl⟩
        simp only [Act.put, List.setIfInBounds_toArray, List.set_cons_succ, List.set_cons_zero]
        refine ⟨fun kk hkk W hW => ?_, ?_⟩
        · have q : W.cell? ⟨wr.heap.size, 1, none⟩ = some (.int .i64 1) := hW.cs.has.cell 1
          unfold Oper.wp
          simp [go_sem, q]
          try exact ⟨_, rfl, rfl⟩
        simp only [Act.put, List.setIfInBounds_toArray, List.set_cons_succ, List.set_cons_zero]
        refine ⟨fun W hW => ?_, ?_⟩
        · unfold Oper.wp
          simp [go_sem]
          refine (HPN.out W).mono ?_
          rintro e w' ⟨ad, c, rfl, hi, hb⟩
          have hN : JP w1 wr.heap.size 111 #[.pointer (some ⟨w.heap.size, 2, none⟩), .int .i64 1, .int .i64 0, .int .i64 48] (.slice (some ⟨g, 0, none⟩) N cp) N L 1 [x2] 1 w' (upd vals 0 (.slice ad 1 c)) := ⟨hW.cs.call hb, fun _ => (hW.row (by decide)).only hb, fun _ => ⟨ad, c, rfl, hi⟩, fun h => absurd h (by decide), fun h => absurd h (by decide)⟩
          first | exact hN | exact ⟨_, rfl, hN⟩
        simp only [Act.put, List.setIfInBounds_toArray, List.set_cons_succ, List.set_cons_zero]
        refine ⟨fun W hW => ?_, ?_⟩
        · obtain ⟨ad, c, hv, hi⟩ := hW.num rfl
          refine wp_append_e _ _ rfl w1.heap.size (.slice (some ⟨g, 0, none⟩) N cp) N L rfl (hW.row (by decide)) ad 1 c W.heap.size [x2] rfl (by decide) hv hi (by omega) hW.cs.below.size (fun v' w' h1 h2 h3 => ?_)
          have hN : JP w1 wr.heap.size 111 #[.pointer (some ⟨w.heap.size, 2, none⟩), .int .i64 1, .int .i64 0, .int .i64 48] (.slice (some ⟨g, 0, none⟩) N cp) N L 1 [x2] 2 w' (upd vals 1 v') := ⟨⟨h2 _ hW.cs.below hW.cs.below.size, h3 _ _ _ (by decide) hW.cs.has⟩, fun h => absurd h (by decide), fun h => absurd h (by decide), fun _ => h1, fun h => absurd h (by decide)⟩
          exact ⟨_, rfl, hN⟩
        simp only [Act.put, List.setIfInBounds_toArray, List.set_cons_succ, List.set_cons_zero]
        refine ⟨fun W hW => ?_, trivial⟩
        have hN : JP w1 wr.heap.size 111 #[.pointer (some ⟨w.heap.size, 2, none⟩), .int .i64 1, .int .i64 0, .int .i64 48] (.slice (some ⟨g, 0, none⟩) N cp) N L 1 [x2] 3 W (upd vals 2 (vals 1)) := ⟨hW.cs, fun h => absurd h (by decide), fun h => absurd h (by decide), fun h => absurd h (by decide), fun _ => hW.app rfl⟩
        unfold Oper.wp
        simp [go_sem]
        first | exact hN | exact ⟨_, rfl, hN⟩
      · intro W vals hJ
        have row7 := hJ.fin rfl
        obtain ⟨ge, cpe, hve⟩ := row7.shape (by omega)
        have hbW := hJ.cs.below
        simp only [putAll, List.map_cons, List.map_nil, Job.val, Act.put, List.setIfInBounds_toArray, List.set_cons_succ, List.set_cons_zero]
        rw [hve] at row7 ⊢
        obtain ⟨Ne, hNe⟩ : ∃ q, N + 1 = q := ⟨_, rfl⟩
        rw [hNe] at row7 ⊢
        have HROW7 := hidden row7
        have HEQ : Hid (L ++ [x2] = hdPart x0 x1 x2 x3 3) := by show _ = _; rw [hL.out]; rfl
        have hNb : Ne ≤ 4 + 2 * 3 := by omega
        have hNe0 : 0 < Ne := by omega
        clear hve hJ row7 hNe hJ0 HPN hix hL
        go_wp2_with fail
        go_roundw
        case rel => exact ⟨3, ge, cpe, Ne, _, rfl, by go_num, by omega, hidden (.inl HROW7.out), HEQ, hNe0, hNb, hbW⟩
        case measure => simp [intOf]
    · have hix : ∀ W : World, (Instr.index 112 (.agg #[.pointer (some ⟨w.heap.size, 0, none⟩), .int .i64 1, .int .i64 0, .int .i64 8, .pointer (some ⟨w.heap.size, 1, none⟩), .int .i64 1, .int .i64 0, .int .i64 12, .pointer (some ⟨w.heap.size, 2, none⟩), .int .i64 1, .int .i64 0, .int .i64 48, .pointer (some ⟨w.heap.size, 3, none⟩), .int .i64 2, .int .i64 1, .int .i64 400]) (.int .i64 3)).run Tryz.prog W = .ok (.agg #[.pointer (some ⟨w.heap.size, 3, none⟩), .int .i64 2, .int .i64 1, .int .i64 400]) W := fun _ => by kernel_rfl
      have HPN := hidden (putNumber_ints x3 2 2 [x3 % 256, x3 / 256] HP3.out rfl)
      have hJ0 : Hid (JP w1 wr.heap.size 111 #[.pointer (some ⟨w.heap.size, 3, none⟩), .int .i64 2, .int .i64 1, .int .i64 400] (.slice (some ⟨g, 0, none⟩) N cp) N L 2 [x3 % 256, x3 / 256] 0 (wr.alloc (.cells #[.pointer (some ⟨w.heap.size, 3, none⟩), .int .i64 2, .int .i64 1, .int .i64 400] 111)).drew fun _ => undef) := ⟨⟨(hbw.alloc hbw.size _).drew, (Has.new _ _ _).drew⟩, fun _ => (hrow.out.alloc _).drew, fun h => absurd h (by decide), fun h => absurd h (by decide), fun h => absurd h (by decide)⟩
      clear hrow hbw
      go_upto_region 7 with fail
      refine wp_region_chain (m := 3) (js := [.quiet (.slice (some ⟨g, 0, none⟩) N cp) 3, .quiet (.pointer (some ⟨wr.heap.size, 0, none⟩)) 3, .quiet (.pointer (some ⟨w.heap.size, 3, none⟩)) 3, .quiet (.pointer (some ⟨w.heap.size, 3, none⟩)) 3, .quiet (.int .i64 x3) 3, .quiet (.pointer (some ⟨wr.heap.size, 1, none⟩)) 3, .quiet (.int .i64 2) 3, .chain 0, .chain 1, .chain 2]) (by kernel_rfl) (JP w1 wr.heap.size 111 #[.pointer (some ⟨w.heap.size, 3, none⟩), .int .i64 2, .int .i64 1, .int .i64 400] (.slice (some ⟨g, 0, none⟩) N cp) N L 2 [x3 % 256, x3 / 256]) (by kernel_rfl) (by kernel_rfl) ⟨_, hJ0.out⟩ (fun vals => ?_) ?_
      · show SeqW _ _ _ _ _ _ _
        refine ⟨fun kk hkk W hW => ?_, ?_⟩
        · unfold Oper.wp
          simp [go_sem]
          try exact ⟨_, rfl, rfl⟩
        simp only [Act.put, List.setIfInBounds_toArray, List.set_cons_succ, List.set_cons_zero]
        refine ⟨fun kk hkk W hW => ?_, ?_⟩
        · unfold Oper.wp
          simp [go_sem]
          try exact ⟨_, rfl, rfl⟩
        simp only [Act.put, List.setIfInBounds_toArray, List.set_cons_succ, List.set_cons_zero]
        refine ⟨fun kk hkk W hW => ?_, ?_⟩
        · have q : W.cell? ⟨wr.heap.size, 0, none⟩ = some (.pointer (some ⟨w.heap.size, 3, none⟩)) := hW.cs.has.cell 0
          unfold Oper.wp
          simp [go_sem, q]
          try exact ⟨_, rfl, rfl⟩
        simp only [Act.put, List.setIfInBounds_toArray, List.set_cons_succ, List.set_cons_zero]
        refine ⟨fun kk hkk W hW => ?_, ?_⟩
        · unfold Oper.wp
          simp [go_sem]
          try exact ⟨_, rfl, rfl⟩
        simp only [Act.put, List.setIfInBounds_toArray, List.set_cons_succ, List.set_cons_zero]
        refine ⟨fun kk hkk W hW => ?_, ?_⟩
        · have q : W.cell? ⟨w.heap.size, 3, none⟩ = some (.int .i64 x3) := (HX1.out.below hW.cs.below HX1.out.lt).cell 3
          unfold Oper.wp
          simp [go_sem, q]
          try exact ⟨_, rfl, rfl⟩
        simp only [Act.put, List.setIfInBounds_toArray, List.set_cons_succ, List.set_cons_zero]
        refine ⟨fun kk hkk W hW => ?_, ?_⟩
        · unfold Oper.wp
          simp [go_sem]
          try exact ⟨_, rfl, rfl⟩
        simp only [Act.put, List.setIfInBounds_toArray, List.set_cons_succ, List.set_cons_zero]
        refine ⟨fun kk hkk W hW => ?_, ?_⟩
        · have q : W.cell? ⟨wr.heap.size, 1, none⟩ = some (.int .i64 2) := hW.cs.has.cell 1
          unfold Oper.wp
          simp [go_sem, q]
          try exact ⟨_, rfl, rfl⟩
        simp only [Act.put, List.setIfInBounds_toArray, List.set_cons_succ, List.set_cons_zero]
        refine ⟨fun W hW => ?_, ?_⟩
        · unfold Oper.wp
          simp [go_sem]
          refine (HPN.out W).mono ?_
          rintro e w' ⟨ad, c, rfl, hi, hb⟩
          have hN : JP w1 wr.heap.size 111 #[.pointer (some ⟨w.heap.size, 3, none⟩), .int .i64 2, .int .i64 1, .int .i64 400] (.slice (some ⟨g, 0, none⟩) N cp) N L 2 [x3 % 256, x3 / 256] 1 w' (upd vals 0 (.slice ad 2 c)) := ⟨hW.cs.call hb, fun _ => (hW.row (by decide)).only hb, fun _ => ⟨ad, c, rfl, hi⟩, fun h => absurd h (by decide), fun h => absurd h (by decide)⟩
          first | exact hN | exact ⟨_, rfl, hN⟩
        simp only [Act.put, List.setIfInBounds_toArray, List.set_cons_succ, List.set_cons_zero]
        refine ⟨fun W hW => ?_, ?_⟩
        · obtain ⟨ad, c, hv, hi⟩ := hW.num rfl
          refine wp_append_e _ _ rfl w1.heap.size (.slice (some ⟨g, 0, none⟩) N cp) N L rfl (hW.row (by decide)) ad 2 c W.heap.size [x3 % 256, x3 / 256] rfl (by decide) hv hi (by omega) hW.cs.below.size (fun v' w' h1 h2 h3 => ?_)
          have hN : JP w1 wr.heap.size 111 #[.pointer (some ⟨w.heap.size, 3, none⟩), .int .i64 2, .int .i64 1, .int .i64 400] (.slice (some ⟨g, 0, none⟩) N cp) N L 2 [x3 % 256, x3 / 256] 2 w' (upd vals 1 v') := ⟨⟨h2 _ hW.cs.below hW.cs.below.size, h3 _ _ _ (by decide) hW.cs.has⟩, fun h => absurd h (by decide), fun h => absurd h (by decide), fun _ => h1, fun h => absurd h (by decide)⟩
          exact ⟨_, rfl, hN⟩
        simp only [Act.put, List.setIfInBounds_toArray, List.set_cons_succ, List.set_cons_zero]
        refine ⟨fun W hW => ?_, trivial⟩
        have hN : JP w1 wr.heap.size 111 #[.pointer (some ⟨w.heap.size, 3, none⟩), .int .i64 2, .int .i64 1, .int .i64 400] (.slice (some ⟨g, 0, none⟩) N cp) N L 2 [x3 % 256, x3 / 256] 3 W (upd vals 2 (vals 1)) := ⟨hW.cs, fun h => absurd h (by decide), fun h => absurd h (by decide), fun h => absurd h (by decide), fun _ => hW.app rfl⟩
        unfold Oper.wp
        simp [go_sem]
        first | exact hN | exact ⟨_, rfl, hN⟩
      · intro W vals hJ
        have row7 := hJ.fin rfl
        obtain ⟨ge, cpe, hve⟩ := row7.shape (by omega)
        have hbW := hJ.cs.below
        simp only [putAll, List.map_cons, List.map_nil, Job.val, Act.put, List.setIfInBounds_toArray, List.set_cons_succ, List.set_cons_zero]
        rw [hve] at row7 ⊢
        obtain ⟨Ne, hNe⟩ : ∃ q, N + 2 = q := ⟨_, rfl⟩
        rw [hNe] at row7 ⊢
        have HROW7 := hidden row7
        have HEQ : Hid (L ++ [x3 % 256, x3 / 256] = hdPart x0 x1 x2 x3 4) := by show _ = _; rw [hL.out]; rfl
        have hNb : Ne ≤ 4 + 2 * 4 := by omega
        have hNe0 : 0 < Ne := by omega
        clear hve hJ row7 hNe hJ0 HPN hix hL
        go_wp2_with fail
        go_roundw
        case rel => exact ⟨4, ge, cpe, Ne, _, rfl, by go_num, by omega, hidden (.inl HROW7.out), HEQ, hNe0, hNb, hbW⟩
        case measure => simp [intOf]
    · have hrow2 := hidden (hrow.out.alloc (.cells #[.int .u8 0] 5))
      have hb2 := hidden (hbw.alloc hbw.size (.cells #[.int .u8 0] 5))
      have hz : Hid (Ints (wr.alloc (.cells #[.int .u8 0] 5)) .u8 (wr.alloc (.cells #[.int .u8 0] 5)).heap.size (some ⟨wr.heap.size, 0, none⟩) [0]) := Ints.ofHas (Has.new _ _ _) rfl (by simp; exact wf_u8.mpr ⟨by omega, by omega⟩) (by simp)
      have hst : w1.heap.size ≤ (wr.alloc (.cells #[.int .u8 0] 5)).heap.size := hb2.out.size
      clear hrow hbw
      go_wp2_with (at_builtin; refine wpList_append_e _ rfl _ _ rfl w1.heap.size _ N L rfl hrow2.out (some ⟨wr.heap.size, 0, none⟩) 1 1 (wr.alloc (.cells #[.int .u8 0] 5)).heap.size [0] rfl (by decide) rfl hz.out (by omega) hst ?_)
      intro v5 w5 hrow5 hg5 _
      have HR5 := hidden (hrow5.lower HB1.out.size)
      have HB5 := hidden (HB1.out.trans ((hg5 _ hb2.out (by simpa using hst)).mono HB1.out.size))
      have HLL : Hid (L ++ [0] = l) := by show _ = _; rw [HE.out, hL.out]
      clear hrow5 hg5 hrow2 hb2 hz hst
      go_wp2_with fail
      go_ret
      refine ⟨v5, rfl, ?_, HB5.out⟩
      have := HR5.out
      rw [HLL.out] at this
      have hlen := this.len
      rw [hlen] at this
      exact this
theorem wantPutHeader : WantPutHeader := fun w h _ => putHeader_any w h

end Go.Proofs.YtjafekjcncmjjaaGreat

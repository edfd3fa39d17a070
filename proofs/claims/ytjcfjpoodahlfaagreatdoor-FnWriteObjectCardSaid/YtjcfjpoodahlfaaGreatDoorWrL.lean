import Derived.IntWalk
import Derived.Deep.CutBlock
import Derived.Test.YtjcfjpoodahlfaaGreatDoorObjV
import Derived.Test.YtjcfjpoodahlfaaGreatDoorTableS
import Derived.Test.YtjcfjpoodahlfaaGreatDoorRowI
namespace Go.Proofs.YtjcfjpoodahlfaaGreatDoor
open Go.RowKit
def manyFix (l : List Sp) : Nat := (l.map fun y => y.s.fixs.length).sum
def allNames (l : List Sp) (ms : List Sm) : List ByteArray := (l.map fun y => y.s.name) ++ ms.map Sm.name
theorem manyFix_snoc (l : List Sp) (k : Nat) (y : Sp) (h : l[k]? = some y) : manyFix (l.take (k + 1)) = manyFix (l.take k) + y.s.fixs.length := by
  unfold manyFix
  rw [List.take_add_one, h, List.map_append, List.sum_append]
  simp
theorem manyFix_le : ∀ (l : List Sp), (∀ y ∈ l, y.s.fixs.length ≤ 1000) → manyFix l ≤ 1000 * l.length
  | [], _ => by simp [manyFix]
  | y :: r, h => by
    have h1 := h y (by simp)
    have h2 := manyFix_le r (fun z hz => h z (by simp [hz]))
    unfold manyFix at h2 ⊢
    simp only [List.map_cons, List.sum_cons, List.length_cons]
    omega
set_option maxRecDepth 100000 in
set_option maxHeartbeats 2000000 in
theorem l6Fixups_any (w : World) (B : Nat) (a1 a2 : Option Addr) (c1 c2 n m : Nat) (l : List Sp) (hn : n = l.length) (h1 : Sects w B a1 l) (hB : B ≤ w.heap.size) (hn8 : n ≤ 1000) (hf : ∀ y ∈ l, y.s.fixs.length ≤ 1000) :
    Calls Tryz.prog 35 #[.agg #[.slice a1 n c1, .slice a2 m c2]] w fun e w' => e = .returned (.int .i64 (manyFix l)) ∧ Below w.heap.size w w' := by
  have HN := hidden hn
  have H1 := hidden h1
  have HF := hidden hf
  clear hn h1 hf
  go_enter Tryz.func35, Tryz.ntmps35
  obtain ⟨X, hX⟩ : ∃ X : World, w.alloc (.cells #[.slice a1 n c1, .slice a2 m c2] 26) = X := ⟨_, rfl⟩
  have hb : Below w.heap.size w X := by rw [← hX]; exact (Below.refl _ _).alloc (Nat.le_refl _) _
  have hx : Has X w.heap.size 26 #[.slice a1 n c1, .slice a2 m c2] := by rw [← hX]; exact Has.new _ _ _
  have x0 := hx.cell 0
  have HX := hidden hX
  clear hX hx
  go_wp2_with fail
  rw [HX.out]
  go_loopw [3, 4] (fun v i wr => ∃ k : Nat, v = .int .i64 (manyFix (l.take k)) ∧ i = .int .i64 k ∧ k ≤ n ∧ wr = X) (fun _ i _ => n - (intOf i).toNat)
  case atStart => exact ⟨0, by simp [manyFix], rfl, Nat.zero_le _, rfl⟩
  case round =>
    obtain ⟨k, rfl, rfl, hk, rfl⟩ := hrel
    by_cases hlt : k < n
    · have hi : (k : Int) < (n : Int) := by omega
      have hkl : k < l.length := by rw [← HN.out]; exact hlt
      obtain ⟨b, off, rfl, hbB, hp⟩ := (H1.out.below (hb.mono hB)).at_ hkl
      obtain ⟨y, hy⟩ : ∃ y, l[k] = y := ⟨_, rfl⟩
      rw [hy] at hp
      obtain ⟨-, -, -, -, -, p5⟩ := hp
      have hy2 : l[k]? = some y := by rw [List.getElem?_eq_getElem hkl, hy]
      have hyl := HF.out y (by rw [← hy]; exact List.getElem_mem hkl)
      have hm1 : manyFix (l.take k) ≤ 1000 * k := by
        have := manyFix_le (l.take k) (fun z hz => HF.out z (List.mem_of_mem_take hz))
        rw [List.length_take] at this
        exact Nat.le_trans this (Nat.mul_le_mul_left _ (Nat.min_le_left _ _))
      have hs := hidden (manyFix_snoc l k y hy2)
      obtain ⟨q, hq⟩ : ∃ q, manyFix (l.take k) = q := ⟨_, rfl⟩
      obtain ⟨u, hu⟩ : ∃ u, y.s.fixs.length = u := ⟨_, rfl⟩
      rw [hq] at hm1 hs ⊢
      rw [hu] at hs hyl p5
      have hwr : IntKind.i64.wrap ((q : Int) + (u : Int)) = (q : Int) + (u : Int) := IntWalk.i64_in _ (by omega)
      clear hy hy2 hkl hq hu
      go_wp2_with fail
      go_roundw
      case rel => exact ⟨k + 1, by rw [hs.out]; go_num, by go_num, by omega, by simp⟩
      case measure => simp [intOf]; omega
    · have hi : ¬ (k : Int) < (n : Int) := by omega
      have ht : l.take k = l := List.take_of_length_le (by rw [← HN.out]; omega)
      rw [ht]
      go_wp2_with fail
      go_ret
      exact ⟨rfl, hb⟩
set_option maxRecDepth 100000 in
set_option maxHeartbeats 2000000 in
theorem l6Names_any (w : World) (B : Nat) (a1 a2 : Option Addr) (c1 c2 n m : Nat) (l : List Sp) (ms : List Sm) (hn : n = l.length) (hm : m = ms.length) (h1 : Sects w B a1 l) (h2 : Syms w B a2 ms) (hB : B ≤ w.heap.size) (hn8 : n ≤ 1000) (hm8 : m ≤ 1000) :
    Calls Tryz.prog 33 #[.agg #[.slice a1 n c1, .slice a2 m c2]] w fun e w' => ∃ v, e = .returned v ∧ w'.ownsRow w.heap.size 9 1 v (n + m) ((allNames l ms).map Value.string) ∧ Below w.heap.size w w' := by
  have HN := hidden hn
  have HM := hidden hm
  have H1 := hidden h1
  have H2 := hidden h2
  clear hn hm h1 h2
  go_enter Tryz.func33, Tryz.ntmps33
  obtain ⟨i0, hi, hz0, hz1, hz2⟩ := info_parts Tryz.info_str
  obtain ⟨X, hX⟩ : ∃ X : World, w.alloc (.cells #[.slice a1 n c1, .slice a2 m c2] 26) = X := ⟨_, rfl⟩
  have hbX : Below w.heap.size w X := by rw [← hX]; exact (Below.refl _ _).alloc (Nat.le_refl _) _
  have hx : Has X w.heap.size 26 #[.slice a1 n c1, .slice a2 m c2] := by rw [← hX]; exact Has.new _ _ _
  have hXs : X.heap.size = w.heap.size + 1 := by rw [← hX]; simp
  have HC : Hid (∀ W, Below (w.heap.size + 1) X W → W.cell? ⟨w.heap.size, 0, none⟩ = some (.slice a1 n c1) ∧ W.cell? ⟨w.heap.size, 1, none⟩ = some (.slice a2 m c2)) := fun W hW => ⟨(hW.cell (Nat.lt_succ_self _)).trans (hx.cell 0), (hW.cell (Nat.lt_succ_self _)).trans (hx.cell 1)⟩
  have hrow0 : (X.alloc (.cells #[] 9)).ownsRow (w.heap.size + 1) 9 1 (.slice (some ⟨w.heap.size + 1, 0, none⟩) 0 0) 0 [] := by
    have := World.ownsRow_lit (base := w.heap.size + 1) (e := 9) (size := 1) X #[] 0 (by omega) (by unfold maxLen; omega) rfl
    rwa [hXs] at this
  have hbX2 : Below (w.heap.size + 1) X (X.alloc (.cells #[] 9)) := (Below.refl _ _).alloc (by omega) _
  have HX := hidden hX
  have HB := hidden hB
  obtain ⟨LN, hLN⟩ : ∃ L, L = l.map (fun y => Value.string y.s.name) := ⟨_, rfl⟩
  obtain ⟨LM, hLM⟩ : ∃ L, L = ms.map (fun y => Value.string y.name) := ⟨_, rfl⟩
  have HLN := hidden hLN
  have HLM := hidden hLM
  have hall : (allNames l ms).map Value.string = LN ++ LM := by rw [hLN, hLM]; unfold allNames; rw [List.map_append, List.map_map, List.map_map]; rfl
  rw [hall]
  clear hLN hLM hall
  clear hX hx
  go_wp2_with fail
  rw [HX.out]
  go_loopw [3, 4] (fun v i wr => ∃ k : Nat, i = .int .i64 k ∧ k ≤ n ∧ Hid (wr.ownsRow (w.heap.size + 1) 9 1 v k (LN.take k)) ∧ Below (w.heap.size + 1) X wr) (fun _ i _ => n - (intOf i).toNat)
  case atStart => exact ⟨0, rfl, Nat.zero_le _, hidden (by simpa using hrow0), hbX2⟩
  case round =>
    obtain ⟨k, rfl, hk, hrow, hbw⟩ := hrel
    clear hrow0 hbX2
    have hb0 : Below w.heap.size w wr := hbX.trans (hbw.mono (Nat.le_succ _))
    have hszr : w.heap.size + 1 ≤ wr.heap.size := by have := hbw.size; omega
    have x0 := (HC.out wr hbw).1
    by_cases hlt : k < n
    · have hilt : (k : Int) < (n : Int) := by omega
      have hkl : k < l.length := by rw [← HN.out]; exact hlt
      obtain ⟨b, off, rfl, hbB, hp⟩ := (H1.out.below (hb0.mono HB.out)).at_ hkl
      obtain ⟨y, hy⟩ : ∃ y, l[k] = y := ⟨_, rfl⟩
      rw [hy] at hp
      obtain ⟨p0, -⟩ := hp
      have hT : Hid (LN.take (k + 1) = LN.take k ++ [.string y.s.name]) := by
        show _ = _
        rw [List.take_add_one, HLN.out, List.getElem?_map, List.getElem?_eq_getElem hkl, hy]; rfl
      have HO := hidden (hrow.out.alloc (.cells #[.string y.s.name] 9))
      have hlow : Hid (∀ q, _ = some q → w.heap.size + 1 ≤ q) := fun q hq => (hrow.out.lt q hq).1
      clear hy hkl hrow
      go_wp2_with (at_builtin; refine wpList_append_own _ rfl _ _ 56 rfl (w.heap.size + 1) 9 i0 (.string ⟨#[]⟩) 1 16 Tryz.underlying56 hi hz0 hz1 hz2 rfl (by decide) _ _ _ rfl HO.out ⟨wr.heap.size, 0, none⟩ 1 1 [.string y.s.name] rfl rfl (fun t u ht => by
          match t, ht with
          | 0, ht => simp at ht; subst ht; simp [Addr.add]) (by intro u hu; simp at hu; subst hu; rfl) (by unfold maxLen; omega) (by omega) (by simp; omega) ?_)
      intro v' w2 hown hg _
      have hrow2 : Hid (w2.ownsRow (w.heap.size + 1) 9 1 v' (k + 1) (LN.take (k + 1))) := by
        show w2.ownsRow _ _ _ _ _ _
        rw [hT.out]; exact hown
      have hbw2 := (hbw.alloc hszr (.cells #[.string y.s.name] 9)).grown hg (by simp; omega) (fun q hq => hlow.out q hq)
      clear hown hg HO hlow hbw hb0
      go_wp2
      go_roundw
      case rel => exact ⟨k + 1, by go_num, by omega, hrow2, hbw2⟩
      case measure => simp [intOf]; omega
    · have hilt : ¬ (k : Int) < (n : Int) := by omega
      have hkn : k = n := by omega
      subst hkn
      have ht : LN.take k = LN := List.take_of_length_le (by rw [HLN.out, List.length_map, ← HN.out]; omega)
      rw [ht] at hrow
      clear hlt ht
      go_wp2_with fail
      clear hilt x0
      go_loopw [3, 5] (fun v i wr => ∃ j : Nat, i = .int .i64 j ∧ j ≤ m ∧ Hid (wr.ownsRow (w.heap.size + 1) 9 1 v (k + j) (LN ++ LM.take j)) ∧ Below (w.heap.size + 1) X wr) (fun _ i _ => m - (intOf i).toNat)
      case atStart => exact ⟨0, rfl, Nat.zero_le _, hidden (by simpa using hrow.out), hbw⟩
      case round =>
        clear hrow hbw hb0 hszr
        obtain ⟨j, rfl, hj, hrow, hbw⟩ := hrel
        have hb0 : Below w.heap.size w wr := hbX.trans (hbw.mono (Nat.le_succ _))
        have hszr : w.heap.size + 1 ≤ wr.heap.size := by have := hbw.size; omega
        have x1 := (HC.out wr hbw).2
        by_cases hlt : j < m
        · have hilt : (j : Int) < (m : Int) := by omega
          have hjl : j < ms.length := by rw [← HM.out]; exact hlt
          obtain ⟨b, off, rfl, hbB, p0, -⟩ := (H2.out.below (hb0.mono HB.out)).at_ hjl
          obtain ⟨y, hy⟩ : ∃ y, ms[j] = y := ⟨_, rfl⟩
          rw [hy] at p0
          have hT : Hid (LN ++ LM.take (j + 1) = (LN ++ LM.take j) ++ [.string y.name]) := by
            show _ = _
            rw [List.take_add_one, HLM.out, List.getElem?_map, List.getElem?_eq_getElem hjl, hy, List.append_assoc]; rfl
          have HO := hidden (hrow.out.alloc (.cells #[.string y.name] 9))
          have hlow : Hid (∀ q, _ = some q → w.heap.size + 1 ≤ q) := fun q hq => (hrow.out.lt q hq).1
          clear hy hjl hrow
          go_wp2_with (at_builtin; refine wpList_append_own _ rfl _ _ 56 rfl (w.heap.size + 1) 9 i0 (.string ⟨#[]⟩) 1 16 Tryz.underlying56 hi hz0 hz1 hz2 rfl (by decide) _ _ _ rfl HO.out ⟨wr.heap.size, 0, none⟩ 1 1 [.string y.name] rfl rfl (fun t u ht => by
              match t, ht with
              | 0, ht => simp at ht; subst ht; simp [Addr.add]) (by intro u hu; simp at hu; subst hu; rfl) (by unfold maxLen; omega) (by omega) (by simp; omega) ?_)
          intro v' w2 hown hg _
          have hrow2 : Hid (w2.ownsRow (w.heap.size + 1) 9 1 v' (k + (j + 1)) (LN ++ LM.take (j + 1))) := by
            show w2.ownsRow _ _ _ _ _ _
            rw [hT.out, List.append_assoc]; exact hown
          have hbw2 := (hbw.alloc hszr (.cells #[.string y.name] 9)).grown hg (by simp; omega) (fun q hq => hlow.out q hq)
          clear hown hg HO hlow hbw hb0
          go_wp2
          go_roundw
          case rel => exact ⟨j + 1, by go_num, by omega, hrow2, hbw2⟩
          case measure => simp [intOf]; omega
        · have hilt : ¬ (j : Int) < (m : Int) := by omega
          have hjm : j = m := by omega
          subst hjm
          have ht : LM.take j = LM := List.take_of_length_le (by rw [HLM.out, List.length_map, ← HM.out]; omega)
          rw [ht] at hrow
          have hrow3 := hidden (show wr.ownsRow w.heap.size 9 1 _ _ _ from ⟨hrow.out.1, hrow.out.2.imp id fun ⟨g, cap, cur, h1, h2, h3⟩ => ⟨g, cap, cur, h1, Nat.le_trans (Nat.le_succ _) h2, h3⟩⟩)
          clear hrow
          go_wp2_with fail
          go_ret
          exact ⟨_, rfl, hrow3.out, hb0⟩
open Go.RowKit
def manyBytes (l : List Sp) : Nat := (l.map fun y => y.s.bytes.length).sum
theorem manyBytes_snoc (l : List Sp) (k : Nat) (y : Sp) (h : l[k]? = some y) : manyBytes (l.take (k + 1)) = manyBytes (l.take k) + y.s.bytes.length := by
  unfold manyBytes
  rw [List.take_add_one, h, List.map_append, List.sum_append]
  simp
def objLen (l : List Sp) (ms : List Sm) : Nat :=
  if objOk (l.map Sp.s) ms then 10 + 6 * l.length + 6 * ms.length + 5 * manyFix l + (nameTab (allNames l ms)).length + manyBytes l else 0

import Derived.Test.YtpfombelhajmlaaGreatDoorDumpN
import Derived.Test.YtpfombelhajmlaaGreatDoorHead
import Derived.Test.YtpfombelhajmlaaGreatDoorRegion
import Derived.IntWalk
import Derived.Deep.CutBlock
namespace Go.Proofs.YtpfombelhajmlaaGreatDoor
open Go.RowKit
theorem hexL_valid {l : List Int} (h : ∀ x ∈ l, 0 ≤ x ∧ x < 256) : ∀ c ∈ hexL l, 0 ≤ hexV c := fun c hc => by
  unfold hexL at hc
  obtain ⟨b, hb, hc⟩ := List.mem_flatMap.1 hc
  have := h b hb
  simp only [List.mem_cons, List.not_mem_nil, or_false] at hc
  rcases hc with rfl | rfl
  · rw [hexV_D (by omega) (by omega)]; omega
  · rw [hexV_D (by omega) (by omega)]; omega
def rhx (t : List Int) : List Int × Bool := match rdHexL t with | some l => (l, true) | none => ([], false)
theorem rhx_bad {t : List Int} {c : Int} (hc : c ∈ t) (h : hexV c < 0) : rhx t = ([], false) := by
  unfold rhx
  split
  · rename_i l hl
    obtain ⟨h1, h2⟩ := rdHexL_some t l hl
    have := hexL_valid h2 c (by rw [h1]; exact hc)
    omega
  · rfl
theorem rhx_odd {t : List Int} {k : Nat} (h : t.length = 2 * k + 1) : rhx t = ([], false) := by
  unfold rhx
  split
  · rename_i l hl
    obtain ⟨h1, _⟩ := rdHexL_some t l hl
    have := hexL_length l
    rw [h1] at this
    omega
  · rfl
theorem rhx_yes {l : List Int} (h : ∀ x ∈ l, 0 ≤ x ∧ x < 256) : rhx (hexL l) = (l, true) := by
  unfold rhx
  rw [rdHexL_hex l h]
set_option maxRecDepth 100000 in
theorem run_hexAt (W : World) (j : Nat) (h : j < 16) : (Instr.index 9 (.string ⟨#[48, 49, 50, 51, 52, 53, 54, 55, 56, 57, 97, 98, 99, 100, 101, 102]⟩) (.int .i64 (j : Int))).run Tryz.prog W = .ok (.int .u8 (hexD j)) W := by
  have hc : j = 0 ∨ j = 1 ∨ j = 2 ∨ j = 3 ∨ j = 4 ∨ j = 5 ∨ j = 6 ∨ j = 7 ∨ j = 8 ∨ j = 9 ∨ j = 10 ∨ j = 11 ∨ j = 12 ∨ j = 13 ∨ j = 14 ∨ j = 15 := by omega
  rcases hc with rfl | rfl | rfl | rfl | rfl | rfl | rfl | rfl | rfl | rfl | rfl | rfl | rfl | rfl | rfl | rfl <;> (clear h; show _ = _; kernel_rfl)
def digTo (c : Int) (j : Nat) : Int := if hexV c < (j : Int) then hexV c else -1
theorem digTo_16 (c : Int) : digTo c 16 = hexV c := by
  unfold digTo
  rw [if_pos]
  unfold hexV
  split
  · omega
  · split <;> omega
theorem digTo_0 (c : Int) : digTo c 0 = -1 := by
  unfold digTo
  split
  · rename_i h
    unfold hexV at h ⊢
    split at h
    · omega
    · rename_i h1
      rw [if_neg h1]
      split at h
      · omega
      · rename_i h2; rw [if_neg h2]
  · rfl
theorem digTo_hit {c : Int} {j : Nat} (hj : j < 16) (h : hexD j = c) : digTo c (j + 1) = j := by
  have : hexV c = j := by rw [← h, hexV_D (by omega) (by omega)]
  unfold digTo
  rw [this, if_pos (by omega)]
theorem digTo_miss {c : Int} {j : Nat} (h : hexD j ≠ c) : digTo c (j + 1) = digTo c j := by
  have hne : hexV c ≠ j := fun e => by
    have := (hexD_V (c := c) (by omega)).1
    rw [e] at this
    exact h this
  unfold digTo
  by_cases h1 : hexV c < (j : Int)
  · rw [if_pos h1, if_pos (by omega)]
  · rw [if_neg h1, if_neg (by omega)]
structure HexTo (t L : List Int) (k : Nat) (n : Int) : Prop where
  wf : ∀ x ∈ L, 0 ≤ x ∧ x < 256
  even : k % 2 = 0 → n = 0 ∧ k = 2 * L.length ∧ t.take k = hexL L
  odd : k % 2 = 1 → 0 ≤ n ∧ n < 16 ∧ k = 2 * L.length + 1 ∧ t.take k = hexL L ++ [hexD n]
theorem HexTo.start (t : List Int) : HexTo t [] 0 0 := ⟨by simp, fun _ => ⟨rfl, rfl, rfl⟩, fun h => by simp at h⟩
theorem HexTo.toOdd {t L : List Int} {k : Nat} {n c : Int} (h : HexTo t L k n) (hk : k % 2 = 0) (hc : t[k]? = some c) (hv : 0 ≤ hexV c) : n = 0 ∧ HexTo t L (k + 1) (hexV c) := by
  obtain ⟨h1, h2, h3⟩ := h.even hk
  obtain ⟨v1, v2⟩ := hexD_V hv
  refine ⟨h1, h.wf, fun e => by omega, fun _ => ⟨hv, v2, by omega, ?_⟩⟩
  rw [List.take_add_one, hc, h3, v1]; rfl
theorem HexTo.toEven {t L : List Int} {k : Nat} {n c : Int} (h : HexTo t L k n) (hk : k % 2 = 1) (hc : t[k]? = some c) (hv : 0 ≤ hexV c) : 0 ≤ 16 * n + hexV c ∧ 16 * n + hexV c < 256 ∧ HexTo t (L ++ [16 * n + hexV c]) (k + 1) 0 := by
  obtain ⟨h0, h1, h2, h3⟩ := h.odd hk
  obtain ⟨v1, v2⟩ := hexD_V hv
  refine ⟨by omega, by omega, fun x hx => ?_, fun _ => ⟨rfl, by rw [List.length_append, List.length_singleton]; omega, ?_⟩, fun e => by omega⟩
  · rcases List.mem_append.1 hx with hx | hx
    · exact h.wf x hx
    · rw [List.mem_singleton.1 hx]; omega
  · rw [List.take_add_one, hc, h3]
    unfold hexL
    rw [List.flatMap_append, List.flatMap_singleton, show (16 * n + hexV c) / 16 = n by omega, show (16 * n + hexV c) % 16 = hexV c by omega, v1]
    simp
def HexS (w : World) (t : List Int) (e : Ending) (w' : World) : Prop := ∃ v, e = .returned (.tuple #[v, .bool (rhx t).2]) ∧ RowI w' w.heap.size v (rhx t).1.length (rhx t).1 ∧ Below w.heap.size w w'
theorem numsOf_at {s : ByteArray} {k : Nat} (h : k < s.size) : (numsOf s)[k]? = some ((s[k].toNat : Nat) : Int) := by
  have hl : k < s.data.toList.length := by simpa using h
  unfold numsOf
  rw [List.getElem?_map, List.getElem?_eq_getElem hl]
  rfl
set_option maxRecDepth 100000 in
set_option maxHeartbeats 2000000 in
theorem readHex'_any (w : World) (s : ByteArray) (hs : s.size ≤ 1200000) :
    Calls Tryz.prog 43 #[.string s] w (HexS w (numsOf s)) := by
  obtain ⟨t, ht⟩ : ∃ t, numsOf s = t := ⟨_, rfl⟩
  have HT := hidden ht
  have hlen : t.length = s.size := by rw [← ht]; exact numsOf_length s
  have HLEN := hidden hlen
  have HRX := hidden (fun (W : World) (j : Nat) (h : j < 16) => run_hexAt W j h)
  rw [ht]
  clear ht hlen
  go_enter Tryz.func43, Tryz.ntmps43
  go_wp2_with fail
  have hrow0 : Hid (RowI (w.alloc (.cells #[] 5)) w.heap.size (.slice (some ⟨w.heap.size, 0, none⟩) 0 0) 0 []) := World.ownsRow_lit (base := w.heap.size) (e := 5) (size := 1) w #[] 0 (Nat.le_refl _) (by unfold maxLen; omega) rfl
  have hb0 : Hid (Below w.heap.size w (w.alloc (.cells #[] 5))) := (Below.refl _ _).alloc (Nat.le_refl _) _
  go_loopw [4, 5, 6] (fun v m i wr => ∃ (k : Nat) (n : Int) (L : List Int), m = .int .i64 n ∧ i = .int .i64 k ∧ k ≤ s.size ∧ 0 ≤ n ∧ n < 16 ∧ Hid (HexTo t L k n) ∧ Hid (RowI wr w.heap.size v L.length L) ∧ Hid (Below w.heap.size w wr)) (fun _ _ i _ => s.size - (intOf i).toNat)
  case atStart => exact ⟨0, 0, [], rfl, rfl, Nat.zero_le _, by omega, by omega, HexTo.start t, hrow0.out, hb0.out⟩
  case round =>
    obtain ⟨k, n, L, rfl, rfl, hk, hn0, hn1, hx, hrow, hb⟩ := hrel
    obtain ⟨wo, hwo⟩ : ∃ q : World, q = wr := ⟨_, rfl⟩
    subst hwo
    clear hrow0 hb0
    by_cases hlt : k < s.size
    · have hi : (k : Int) < (s.size : Int) := by omega
      obtain ⟨c, hc⟩ : ∃ c : Int, ((s[k].toNat : Nat) : Int) = c := ⟨_, rfl⟩
      have hct : Hid (t[k]? = some c) := by show _ = _; rw [← HT.out, ← hc]; exact numsOf_at hlt
      have hc0 : 0 ≤ c ∧ c < 256 := by rw [← hc]; have := s[k].toNat_lt; omega
      go_wp2_with fail
      go_loopw [7, 8] (fun d q wq => ∃ j : Nat, d = .int .i64 (digTo c j) ∧ q = .int .i64 j ∧ j ≤ 16 ∧ Hid (Below wo.heap.size wo wq)) (fun _ q _ => 16 - (intOf q).toNat)
      case atStart => exact ⟨0, by rw [digTo_0], rfl, Nat.zero_le _, Below.refl _ _⟩
      case round =>
        obtain ⟨j, rfl, rfl, hj, hbq⟩ := hrel
        by_cases hj16 : j < 16
        · have hji : (j : Int) < 16 := by omega
          have hix := fun W : World => HRX.out W j hj16
          obtain ⟨h, hh⟩ : ∃ h, hexD (j : Int) = h := ⟨_, rfl⟩
          have HH := hidden hh
          rw [hh] at hix
          obtain ⟨d, hd⟩ : ∃ d, digTo c j = d := ⟨_, rfl⟩
          have HDD := hidden hd
          rw [hd]
          clear hd hh
          by_cases he : h = c
          · have HD : Hid (digTo c (j + 1) = j) := digTo_hit hj16 (by rw [HH.out, he])
            have hbe : (h == c) = true := by simp [he]
            clear he
            go_wp2_with fail
            go_quiet (fail)
            have HB := hidden (below_drewN hbq.out nq)
            clear hbq hix
            go_wp2_with fail
            go_roundw
            case rel => exact ⟨j + 1, by rw [HD.out], by go_num, by omega, HB⟩
            case measure => simp [intOf]; omega
          · have HD : Hid (digTo c (j + 1) = d) := by show _ = _; rw [digTo_miss (by rw [HH.out]; exact he), HDD.out]
            have hbe : (h == c) = false := by simp [he]
            clear he
            go_wp2_with fail
            go_quiet (fail)
            have HB := hidden (below_drewN hbq.out nq)
            clear hbq hix
            go_wp2_with fail
            go_roundw
            case rel => exact ⟨j + 1, by rw [HD.out], by go_num, by omega, HB⟩
            case measure => simp [intOf]; omega
        · have hji : ¬ (j : Int) < 16 := by omega
          have hd16 : Hid (digTo c j = hexV c) := by show _ = _; rw [show j = 16 by omega, digTo_16]
          have hrow1 := hidden (hrow.out.only hbq.out)
          have hb1 := hidden (hb.out.trans (hbq.out.mono hb.out.size))
          rw [hd16.out]
          obtain ⟨v, hv⟩ : ∃ v, hexV c = v := ⟨_, rfl⟩
          have HV := hidden hv
          rw [hv]
          clear hv hd16 hbq hrow hb HRX
          by_cases hneg : v < 0
          · have HBAD : Hid (rhx t = ([], false)) := rhx_bad (List.mem_of_getElem? hct.out) (by rw [HV.out]; exact hneg)
            go_wp2_with fail
            go_ret2
            refine ⟨.slice (some ⟨wr.heap.size, 0, none⟩) 0 0, by rw [HBAD.out]; rfl, ?_, hb1.out.alloc hb1.out.size _⟩
            rw [HBAD.out]
            exact World.ownsRow_lit (base := w.heap.size) (e := 5) (size := 1) _ #[] 0 hb1.out.size (by unfold maxLen; omega) rfl
          · have hv0 : 0 ≤ v := by omega
            have hv16 : v < 16 := by have := (hexD_V (c := c) (by rw [HV.out]; exact hv0)).2; rw [HV.out] at this; exact this
            rcases Nat.mod_two_eq_zero_or_one k with hp | hp
            · obtain ⟨hn, hx2⟩ := hx.out.toOdd hp hct.out (by rw [HV.out]; exact hv0)
              rw [HV.out] at hx2
              have HX2 := hidden hx2
              have hmod : Int.tmod (k : Int) 2 = 0 := by rw [Int.tmod_eq_emod_of_nonneg (by omega)]; omega
              have hmod2 : (k : Int) % 2 = 0 := by omega
              subst hn
              clear hx hx2
              go_wp2_with fail
              go_roundw
              case rel => exact ⟨k + 1, v, L, by first | rfl | simp, by go_num, by omega, hv0, hv16, HX2, hrow1, hb1⟩
              case measure => simp [intOf]; omega
            · obtain ⟨hs0, hs1, hx2⟩ := hx.out.toEven hp hct.out (by rw [HV.out]; exact hv0)
              rw [HV.out] at hs0 hs1 hx2
              have HX2 := hidden hx2
              have hmod : Int.tmod (k : Int) 2 = 1 := by rw [Int.tmod_eq_emod_of_nonneg (by omega)]; omega
              have hmod2 : (k : Int) % 2 = 1 := by omega
              obtain ⟨x, hx⟩ : ∃ x : Int, 16 * n + v = x := ⟨_, rfl⟩
              have hxw : IntKind.u8.wrap x = x := by rw [← hx]; exact IntWalk.u8_in _ (by omega)
              have hw16 : IntKind.i64.wrap (16 * n) = 16 * n := IntWalk.i64_in _ (by omega)
              have hw17 : IntKind.i64.wrap (16 * n + v) = x := by rw [← hx]; exact IntWalk.i64_in _ (by omega)
              rw [hx] at HX2 hs0 hs1
              have HROW := hidden (hrow1.out.alloc (.cells #[.int .u8 x] 5))
              have hLs : L.length ≤ 600000 := by have := HX2.out.even (by omega); rw [List.length_append, List.length_singleton] at this; omega
              obtain ⟨N, hN⟩ : ∃ N, L.length = N := ⟨_, rfl⟩
              have HNN := hidden hN
              rw [hN] at HROW hLs
              have HINT : Hid (Ints (wr.alloc (.cells #[.int .u8 x] 5)) .u8 (wr.heap.size + 1) (some ⟨wr.heap.size, 0, none⟩) [x]) := Ints.ofHas (Has.new _ _ _) rfl (by simp; exact wf_u8.mpr ⟨hs0, hs1⟩) (Nat.lt_succ_self _)
              have hbs : w.heap.size ≤ (wr.alloc (.cells #[.int .u8 x] 5)).heap.size := Nat.le_trans hb1.out.size (by simp)
              clear hx hx2 hN hrow1
              go_wp2_with (at_builtin; refine wpList_append_ints _ rfl _ _ rfl w.heap.size _ N L rfl HROW.out (some ⟨wr.heap.size, 0, none⟩) 1 1 (wr.heap.size + 1) [x] rfl rfl HINT.out (by omega) hbs ?_)
              intro v' w' hrow' hg'
              have HB' := hidden ((hb1.out.alloc hb1.out.size (.cells #[.int .u8 x] 5)).grown hg' hbs (fun q hq => (World.ownsRow.lt HROW.out q hq).1))
              have HR' : Hid (RowI w' w.heap.size v' (L ++ [x]).length (L ++ [x])) := by show RowI _ _ _ _ _; rw [List.length_append, HNN.out]; exact hrow'
              clear hrow' hg' HROW HINT hbs
              go_wp2_with fail
              go_roundw
              case rel => exact ⟨k + 1, 0, L ++ [x], rfl, by go_num, by omega, by omega, by omega, HX2, HR', HB'⟩
              case measure => simp [intOf]; omega
    · have hi : ¬ (k : Int) < (s.size : Int) := by omega
      have hks : k = s.size := by omega
      rcases Nat.mod_two_eq_zero_or_one k with hp | hp
      · have hmod : Int.tmod (s.size : Int) 2 = 0 := by rw [Int.tmod_eq_emod_of_nonneg (by omega)]; omega
        have hmod2 : (s.size : Int) % 2 = 0 := by omega
        have HF : Hid (rhx t = (L, true)) := by
          obtain ⟨_, _, h3⟩ := hx.out.even hp
          have e : t.take k = t := List.take_of_length_le (by rw [HLEN.out]; omega)
          show _ = _
          rw [← e, h3, rhx_yes hx.out.wf]
        clear hx
        go_wp2_with fail
        go_ret2
        exact ⟨_, by rw [HF.out]; rfl, by rw [HF.out]; exact hrow.out, hb.out⟩
      · have hmod : Int.tmod (s.size : Int) 2 = 1 := by rw [Int.tmod_eq_emod_of_nonneg (by omega)]; omega
        have hmod2 : (s.size : Int) % 2 = 1 := by omega
        have HF : Hid (rhx t = ([], false)) := by
          obtain ⟨_, _, h2, _⟩ := hx.out.odd hp
          exact rhx_odd (k := L.length) (by rw [HLEN.out]; omega)
        clear hx
        go_wp2_with fail
        go_ret2
        refine ⟨.slice (some ⟨wo.heap.size, 0, none⟩) 0 0, by rw [HF.out]; rfl, ?_, hb.out.alloc hb.out.size _⟩
        rw [HF.out]
        exact World.ownsRow_lit (base := w.heap.size) (e := 5) (size := 1) _ #[] 0 hb.out.size (by unfold maxLen; omega) rfl
end Go.Proofs.YtpfombelhajmlaaGreatDoor

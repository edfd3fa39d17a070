/-
  The walk of FnFindName.
-/
import Derived.Test.YtjakkiidedmifaaDrawOF
import Derived.Deep.RegionWith
namespace Go.Proofs.Ytjakkiidedmifaa
open Go.RowKit

/-- Around the copy of a symbol. -/
structure JT (W0 : World) (cs : Array Value) (k : Nat) (f : Bool) (Z : World) (vals : Nat → Value) : Prop where
  bel : Below W0.heap.size W0 Z
  late : 0 < k → f = true
  fr : f = true → ∃ h, vals 1 = .pointer (some ⟨h, 0, none⟩) ∧ W0.heap.size ≤ h ∧ Has Z h 37 (if k = 1 then cs else #[.string ⟨#[]⟩, .int .i64 0, .int .i64 0, .int .i64 0])
section
variable {W0 Z : World} {x0 x1 x2 x3 : Value} {k : Nat} {f : Bool} {vals : Nat → Value}
theorem JT.free (h : JT W0 #[x0, x1, x2, x3] k false Z vals) (hk : k = 0) : JT W0 #[x0, x1, x2, x3] k true (Z.alloc (.cells #[.string ⟨#[]⟩, .int .i64 0, .int .i64 0, .int .i64 0] 37)) (upd vals 1 (.pointer (some ⟨Z.heap.size, 0, none⟩))) :=
  ⟨h.bel.alloc h.bel.size _, fun _ => rfl, fun _ => ⟨_, rfl, h.bel.size, by rw [if_neg (by omega)]; exact Has.new _ _ _⟩⟩
theorem JT.c0 (h : JT W0 #[x0, x1, x2, x3] 0 true Z vals) {g : Nat} (hg : vals 1 = .pointer (some ⟨g, 0, none⟩)) (u : Value) : JT W0 #[x0, x1, x2, x3] 1 true ((((Z.setCell ⟨g, 0, none⟩ x0).setCell ⟨g, 1, none⟩ x1).setCell ⟨g, 2, none⟩ x2).setCell ⟨g, 3, none⟩ x3) (upd vals 0 u) := by
  obtain ⟨g', q1, q2, q3⟩ := h.fr rfl
  rw [hg] at q1
  injection q1 with q1
  injection q1 with q1
  injection q1 with q1
  subst q1
  exact ⟨(((h.bel.setCell (p := ⟨g, 0, none⟩) q2 _).setCell (p := ⟨g, 1, none⟩) q2 _).setCell (p := ⟨g, 2, none⟩) q2 _).setCell (p := ⟨g, 3, none⟩) q2 _, fun _ => rfl, fun _ => ⟨g, hg, q2, (((q3.put 0 _).put 1 _).put 2 _).put 3 _⟩⟩
end
set_option maxRecDepth 100000 in
set_option maxHeartbeats 16000000 in
theorem law_FindName (w : World) (a0 : Option Addr) (len cap : Nat) (h : Came w a0 len cap) :
    Calls Try.prog 5 #[.slice a0 len cap] w fun e w' => e = .returned (.bool true) ∧ Below w.heap.size w w' := by
  obtain ⟨l0, h, rfl, hcap, hmax⟩ := h
  by_cases hbig : 1048576 < l0.length
  · have hd : (1048576 : Int) < (l0.length : Int) := by omega
    go_enter Try.func5, Try.ntmps5
    go_wp2
    go_ret
    exact ⟨rfl, Below.refl _ _⟩
  have hd : ¬ (1048576 : Int) < (l0.length : Int) := by omega
  have HD := hidden (drawFindName_any w a0 cap l0 h hcap hmax)
  clear h
  go_enter Try.func5, Try.ntmps5
  go_wp2_with fail
  refine HD.out.mono ?_
  clear HD
  rintro e w1 ⟨a, c, L, s, rfl, hL5, hfew, hs9, hO, hb1⟩
  have hft : ∀ y ∈ L, y.fits := fun y hy => (hfew y hy).fits
  obtain ⟨nL, hnL⟩ : ∃ n, L.length = n := ⟨_, rfl⟩
  obtain ⟨U, hU⟩ : ∃ u, findA (L.map Oj.o) s = u := ⟨_, rfl⟩
  obtain ⟨ok, hok⟩ : ∃ b, validA (L.map Oj.o) = b := ⟨_, rfl⟩
  have HTRUE : Hid (U.given = true → ∃ (k j : Nat) (y : Oj) (m : Sm), L[k]? = some y ∧ y.ms[j]? = some m ∧ U.inn = (k : Int) ∧ U.at_ = (j : Int) ∧ m.name = s ∧ m.loc ≠ -1 ∧ m.bind ≠ 0 ∧ (m.bind = 1 ↔ 0 < U.strong)) := fun e => by
    rw [← hU] at e ⊢
    exact found_told e
  have HNOT : Hid (U.given = false → U.inn = 0 ∧ U.at_ = 0) := fun e => by
    rw [← hU] at e ⊢
    exact not_found e
  have HANY : Hid (ok = true → (itemsUp (L.map Oj.ms) nL).any (gv s) = U.given) := fun e => by
    rw [← itemsA_is hnL.symm, any_given (hok.trans e), hU]
  have HSTR : Hid (ok = true → (itemsUp (L.map Oj.ms) nL).any (gs s) = decide (0 < U.strong)) := fun e => by
    rw [← itemsA_is hnL.symm, any_strong (hok.trans e), hU]
  have HNV : Hid (ok = false → U.given = false) := fun e => by
    rw [← hU]; unfold findA; rw [hok, e]; rfl
  have HFW : Hid (∀ W, Below w1.heap.size w1 W → Calls Try.prog 23 #[.slice a nL c] W fun e w' => e = .returned (.bool ok) ∧ Below W.heap.size W w') := fun W hB => by
    have := fewObjects_any W w1.heap.size a c nL L hnL.symm (hO.below hB) hB.size (by omega) hft
    rwa [hok] at this
  have HIM : Hid (∀ W, Below w1.heap.size w1 W → Calls Try.prog 16 #[.slice a nL c, .string s] W (FoundA W U)) := fun W hB => by
    have := findName_any W w1.heap.size a c nL L hnL.symm (hO.below hB) hB.size (by omega) hft s (by unfold maxLen; omega)
    rwa [hU] at this
  have HSP : Hid (∀ W, Below w1.heap.size w1 W → Calls Try.prog 22 #[.slice a nL c, .string s] W (FoundA W U)) := fun W hB => by
    have := findName'_any W w1.heap.size a c nL L hnL.symm (hO.below hB) hB.size (by omega) hft s
    rwa [hU] at this
  have HAT : Hid (∀ (j : Nat) (y : Oj), L[j]? = some y → ∃ b off, a = some ⟨b, off, none⟩ ∧ ∀ W, Below w1.heap.size w1 W → W.cell? ⟨b, off + j * 2, none⟩ = some (.slice y.a1 y.l.length y.c1) ∧ W.cell? ⟨b, off + j * 2 + 1, none⟩ = some (.slice y.a2 y.ms.length y.c2)) := fun j y hj => by
    have hjl := (List.getElem?_eq_some_iff.1 hj).1
    obtain ⟨b, off, e1, hb, h1, h2⟩ := hO.at_ hjl
    rw [(List.getElem?_eq_some_iff.1 hj).2] at h1 h2
    exact ⟨b, off, e1, fun W hB => ⟨(hB.cell (by show b < _; exact hb)).trans h1, (hB.cell (by show b < _; exact hb)).trans h2⟩⟩
  have HSY : Hid (∀ (y : Oj), y ∈ L → ∀ (j : Nat) (m : Sm), y.ms[j]? = some m → ∃ b off, y.a2 = some ⟨b, off, none⟩ ∧ ∀ W, Below w1.heap.size w1 W → W.cell? ⟨b, off + j * 4, none⟩ = some (.string m.name) ∧ W.cell? ⟨b, off + j * 4 + 1, none⟩ = some (.int .i64 m.bind) ∧ W.cell? ⟨b, off + j * 4 + 2, none⟩ = some (.int .i64 m.loc) ∧ W.cell? ⟨b, off + j * 4 + 3, none⟩ = some (.int .i64 m.value)) := fun y hy j m hj => by
    have hjl := (List.getElem?_eq_some_iff.1 hj).1
    obtain ⟨b, off, e1, hb, h1, h2, h3, h4⟩ := (hO.syms y hy).at_ hjl
    rw [(List.getElem?_eq_some_iff.1 hj).2] at h1 h2 h3 h4
    have hbc : ∀ (W : World) (q : Nat), Below w1.heap.size w1 W → W.cell? ⟨b, q, none⟩ = w1.cell? ⟨b, q, none⟩ := fun W q hB => hB.cell (by show b < _; exact hb)
    exact ⟨b, off, e1, fun W hB => ⟨(hbc W _ hB).trans h1, (hbc W _ hB).trans h2, (hbc W _ hB).trans h3, (hbc W _ hB).trans h4⟩⟩
  have HM20 : Hid (∀ y ∈ L, y.ms.length ≤ 20) := fun y hy => (hfew y hy).n2
  have HNL := hidden hnL
  rw [hnL]
  rw [hnL] at hL5
  obtain ⟨ui, ua, ug, us, uw⟩ := U
  unfold FoundA at HIM HSP
  simp only at HIM HSP HTRUE HNOT HANY HSTR HNV
  have HI1 := hidden (HIM.out w1 (Below.refl _ _))
  have HB1 := hidden hb1
  have hok2 : (ug != ug) = false := by simp
  clear hft hfew hO hb1 hnL hU hok HIM hs9 hd hbig
  go_wp2_with fail
  refine HI1.out.mono ?_
  clear HI1
  rintro e w2 ⟨rfl, hb2⟩
  have hX : Has (w2.alloc (.cells #[.int .i64 ui, .int .i64 ua] 32)) w2.heap.size 32 #[.int .i64 ui, .int .i64 ua] := Has.new _ _ _
  have hC3 : Below w1.heap.size w1 (w2.alloc (.cells #[.int .i64 ui, .int .i64 ua] 32)) := hb2.alloc hb2.size _
  obtain ⟨W3, hW3⟩ : ∃ q, w2.alloc (.cells #[.int .i64 ui, .int .i64 ua] 32) = q := ⟨_, rfl⟩
  obtain ⟨qx, hqx⟩ : ∃ q, w2.heap.size = q := ⟨_, rfl⟩
  rw [hW3] at hX hC3
  rw [hqx] at hX
  have HX3 := hidden hX
  have HC3 := hidden hC3
  have HS3 := hidden (HSP.out W3 hC3)
  have HW3 := hidden hW3
  have HQX := hidden hqx
  clear hb2 hX hC3 hW3 hqx HSP
  go_upto_region 5 with fail
  rw [HW3.out, HQX.out]
  clear HW3 HQX
  go_wp2_with fail
  refine HS3.out.mono ?_
  clear HS3
  rintro e w4 ⟨rfl, hb4⟩
  have hY : Has (w4.alloc (.cells #[.int .i64 ui, .int .i64 ua] 32)) w4.heap.size 32 #[.int .i64 ui, .int .i64 ua] := Has.new _ _ _
  have hC4 := hb4.alloc hb4.size (.cells #[.int .i64 ui, .int .i64 ua] 32)
  obtain ⟨W5, hW5⟩ : ∃ q, w4.alloc (.cells #[.int .i64 ui, .int .i64 ua] 32) = q := ⟨_, rfl⟩
  obtain ⟨qy, hqy⟩ : ∃ q, w4.heap.size = q := ⟨_, rfl⟩
  rw [hW5] at hY hC4
  rw [hqy] at hY
  have HX5 := hidden (HX3.out.below hC4 HX3.out.lt)
  have HC5 := hidden (HC3.out.trans (hC4.mono HC3.out.size))
  have HB5 := hidden (HB1.out.trans (HC5.out.mono HB1.out.size))
  have HY5 := hidden hY
  have HW5 := hidden hW5
  have HQY := hidden hqy
  clear hb4 hY hC4 hW5 hqy HX3 HC3 HB1
  go_upto_region 6 with fail
  rw [HW5.out, HQY.out]
  clear HW5 HQY
  have x0 : W5.cell? ⟨qx, 0, none⟩ = some (.int .i64 ui) := HX5.out.cell 0
  have x1 : W5.cell? ⟨qx, 1, none⟩ = some (.int .i64 ua) := HX5.out.cell 1
  have y0 : W5.cell? ⟨qy, 0, none⟩ = some (.int .i64 ui) := HY5.out.cell 0
  have y1 : W5.cell? ⟨qy, 1, none⟩ = some (.int .i64 ua) := HY5.out.cell 1
  clear HY5
  go_wp2_with fail
  clear x0 x1 y0 y1
  go_loopw [9, 10, 11] (fun b1 b2 i wr => ∃ (k : Nat) (bs ba : Bool), i = .int .i64 k ∧ b1 = .bool bs ∧ b2 = .bool ba ∧ k ≤ nL ∧ Hid (ok = false → k = 0) ∧ Hid (ba = (itemsUp (L.map Oj.ms) k).any (gv s)) ∧ Hid (bs = (itemsUp (L.map Oj.ms) k).any (gs s)) ∧ Below W5.heap.size W5 wr) (fun _ _ i _ => nL - (intOf i).toNat)
  case atStart => exact ⟨0, false, false, rfl, rfl, rfl, Nat.zero_le _, fun _ => rfl, by show _ = _; rw [itemsUp_zero]; rfl, by show _ = _; rw [itemsUp_zero]; rfl, Below.refl _ _⟩
  case round =>
    obtain ⟨k, bs, ba, rfl, rfl, rfl, hk, HK0, HA, HS, hb⟩ := hrel
    have HB := hidden hb
    clear hb
    by_cases hlt : k < nL
    · have hi : (k : Int) < (nL : Int) := by omega
      have HF1 := hidden (HFW.out wr (HC5.out.trans (HB.out.mono HC5.out.size)))
      go_wp2_with fail
      refine HF1.out.mono ?_
      clear HF1
      rintro e w6 ⟨rfl, hb6⟩
      have HB6 := hidden (HB.out.trans (hb6.mono HB.out.size))
      clear HB hb6
      rcases ok with _ | _
      · have hug := HNV.out rfl
        subst hug
        have hk0 := HK0.out rfl
        have hba : ba = false := by rw [HA.out, hk0, itemsUp_zero]; rfl
        subst hba
        clear HK0 HA HS hk0 HNV
        obtain ⟨rfl, rfl⟩ := HNOT.out rfl
        have HX9 := hidden (HX5.out.below HB6.out HX5.out.lt)
        have x0 : w6.cell? ⟨qx, 0, none⟩ = some (.int .i64 0) := HX9.out.cell 0
        have x1 : w6.cell? ⟨qx, 1, none⟩ = some (.int .i64 0) := HX9.out.cell 1
        have HF := hidden (HB5.out.trans (HB6.out.mono HB5.out.size))
        clear HX5 HX9 HB5 HTRUE HANY HSTR
        go_wp2_with (go_at_call 17; refine (alive_any _).mono ?_; rintro e _ ⟨rfl, rfl⟩)
        go_ret
        exact ⟨rfl, HF.out⟩
      obtain ⟨y, hy⟩ : ∃ y, L[k]? = some y := ⟨_, List.getElem?_eq_getElem (by rw [HNL.out]; exact hlt)⟩
      have hym := List.mem_of_getElem? hy
      obtain ⟨b, off, rfl, hat⟩ := HAT.out k y hy
      have HCL := hidden hat
      have HSM := hidden (HSY.out y hym)
      have hn20 := HM20.out y hym
      have HMS : Hid ((L.map Oj.ms)[k]? = some y.ms) := by show _ = _; rw [List.getElem?_map, hy]; rfl
      obtain ⟨yl, ym, ya1, yc1, ya2, yc2⟩ := y
      simp only at HCL HSM hn20 HMS
      obtain ⟨nm, hnm⟩ : ∃ n, ym.length = n := ⟨_, rfl⟩
      have HNM := hidden hnm
      rw [hnm] at HCL hn20
      clear hy hym hat hnm
      go_wp2_with fail
      go_loopw [9, 10, 12] (fun b1 b2 i wr => ∃ (j : Nat) (bs ba : Bool), i = .int .i64 j ∧ b1 = .bool bs ∧ b2 = .bool ba ∧ j ≤ nm ∧ Hid (ba = (itemsAt (L.map Oj.ms) k j).any (gv s)) ∧ Hid (bs = (itemsAt (L.map Oj.ms) k j).any (gs s)) ∧ Below W5.heap.size W5 wr) (fun _ _ i _ => nm - (intOf i).toNat)
      case atStart => exact ⟨0, bs, ba, rfl, rfl, rfl, Nat.zero_le _, by show _ = _; rw [itemsAt_zero]; exact HA.out, by show _ = _; rw [itemsAt_zero]; exact HS.out, HB6.out⟩
      case round =>
        clear HA HS HB6
        obtain ⟨j, bs, ba, rfl, rfl, rfl, hj, HA, HS, hb⟩ := hrel
        have HB := hidden hb
        have HC := hidden (HC5.out.trans (hb.mono HC5.out.size))
        obtain ⟨c0, c1⟩ := HCL.out wr HC.out
        clear hb
        by_cases hjl : j < nm
        · have hji : (j : Int) < (nm : Int) := by omega
          obtain ⟨m, hm⟩ : ∃ m, ym[j]? = some m := ⟨_, List.getElem?_eq_getElem (by rw [HNM.out]; exact hjl)⟩
          obtain ⟨b2, o2, rfl, hsc⟩ := HSM.out j m hm
          obtain ⟨p0, p1, p2, p3⟩ := hsc wr HC.out
          have HA2 : Hid ((itemsAt (L.map Oj.ms) k (j + 1)).any (gv s) = (ba || gv s ⟨k, j, m⟩)) := by show _ = _; rw [itemsAt_next HMS.out hm, List.any_append, HA.out]; simp
          have HS2 : Hid ((itemsAt (L.map Oj.ms) k (j + 1)).any (gs s) = (bs || gs s ⟨k, j, m⟩)) := by show _ = _; rw [itemsAt_next HMS.out hm, List.any_append, HS.out]; simp
          obtain ⟨mn, mb, ml, mv⟩ := m
          simp only at p0 p1 p2 p3
          have hP : Has (wr.alloc (.cells #[.string mn, .int .i64 mb, .int .i64 ml, .int .i64 mv] 37)) wr.heap.size 37 #[.string mn, .int .i64 mb, .int .i64 ml, .int .i64 mv] := Has.new _ _ _
          have hB8 := HB.out.alloc HB.out.size (.cells #[.string mn, .int .i64 mb, .int .i64 ml, .int .i64 mv] 37)
          obtain ⟨W8, hW8⟩ : ∃ q, wr.alloc (.cells #[.string mn, .int .i64 mb, .int .i64 ml, .int .i64 mv] 37) = q := ⟨_, rfl⟩
          obtain ⟨qs, hqs⟩ : ∃ q, wr.heap.size = q := ⟨_, rfl⟩
          rw [hW8] at hP hB8
          rw [hqs] at hP
          have s0 : W8.cell? ⟨qs, 0, none⟩ = some (.string mn) := hP.cell 0
          have s1 : W8.cell? ⟨qs, 1, none⟩ = some (.int .i64 mb) := hP.cell 1
          have s2 : W8.cell? ⟨qs, 2, none⟩ = some (.int .i64 ml) := hP.cell 2
          have HW8 := hidden hW8
          have HQS := hidden hqs
          have HB8 := hidden hB8
          clear hm hsc hP hB8 hW8 hqs HA HS HB
          go_upto_region 17 with fail
          rw [HW8.out, HQS.out]
          clear HW8 HQS
          by_cases hnm : mn = s
          · subst hnm
            by_cases hmb : mb = 0
            · have z1 : (mb != 0) = false := by simp [hmb]
              have HA3 : Hid (ba = (itemsAt (L.map Oj.ms) k (j + 1)).any (gv mn)) := by show _ = _; rw [HA2.out]; simp [gv, hmb]
              have HS3 : Hid (bs = (itemsAt (L.map Oj.ms) k (j + 1)).any (gs mn)) := by show _ = _; rw [HS2.out]; simp [gs, gv, hmb]
              clear hmb HA2 HS2
              go_wp2_with fail
              go_roundw
              case rel => exact ⟨j + 1, bs, ba, by go_num, rfl, rfl, hjl, HA3, HS3, HB8.out⟩
              case measure => simp [intOf]; omega
            have z1 : (mb != 0) = true := by simp [hmb]
            by_cases hml : ml = -1
            · have z2 : (ml != -1) = false := by simp [hml]
              have HA3 : Hid (ba = (itemsAt (L.map Oj.ms) k (j + 1)).any (gv mn)) := by show _ = _; rw [HA2.out]; simp [gv, hml]
              have HS3 : Hid (bs = (itemsAt (L.map Oj.ms) k (j + 1)).any (gs mn)) := by show _ = _; rw [HS2.out]; simp [gs, gv, hml]
              clear hmb hml HA2 HS2
              go_wp2_with fail
              go_roundw
              case rel => exact ⟨j + 1, bs, ba, by go_num, rfl, rfl, hjl, HA3, HS3, HB8.out⟩
              case measure => simp [intOf]; omega
            have z2 : (ml != -1) = true := by simp [hml]
            have HA3 : Hid (true = (itemsAt (L.map Oj.ms) k (j + 1)).any (gv mn)) := by show _ = _; rw [HA2.out]; simp [gv, hmb, hml]
            have HS3 : Hid ((bs || decide (mb = 1)) = (itemsAt (L.map Oj.ms) k (j + 1)).any (gs mn)) := by show _ = _; rw [HS2.out]; simp [gs, gv, hmb, hml]
            clear hmb hml HA2 HS2
            rcases bs with _ | _
            · by_cases h1 : mb = 1
              · have z3 : (mb == 1) = true := by simp [h1]
                have HS4 : Hid (true = (itemsAt (L.map Oj.ms) k (j + 1)).any (gs mn)) := by show _ = _; rw [← HS3.out]; simp [h1]
                clear h1 HS3
                go_wp2_with fail
                go_roundw
                case rel => exact ⟨j + 1, true, true, by go_num, rfl, rfl, hjl, HA3, HS4, HB8.out⟩
                case measure => simp [intOf]; omega
              · have z3 : (mb == 1) = false := by simp [h1]
                have HS4 : Hid (false = (itemsAt (L.map Oj.ms) k (j + 1)).any (gs mn)) := by show _ = _; rw [← HS3.out]; simp [h1]
                clear h1 HS3
                go_wp2_with fail
                go_roundw
                case rel => exact ⟨j + 1, false, true, by go_num, rfl, rfl, hjl, HA3, HS4, HB8.out⟩
                case measure => simp [intOf]; omega
            · have HS4 : Hid (true = (itemsAt (L.map Oj.ms) k (j + 1)).any (gs mn)) := by show _ = _; rw [← HS3.out]; simp
              clear HS3
              go_wp2_with fail
              go_roundw
              case rel => exact ⟨j + 1, true, true, by go_num, rfl, rfl, hjl, HA3, HS4, HB8.out⟩
              case measure => simp [intOf]; omega
          · have hne := str_ne hnm
            have HA3 : Hid (ba = (itemsAt (L.map Oj.ms) k (j + 1)).any (gv s)) := by show _ = _; rw [HA2.out]; simp [gv, hnm]
            have HS3 : Hid (bs = (itemsAt (L.map Oj.ms) k (j + 1)).any (gs s)) := by show _ = _; rw [HS2.out]; simp [gs, gv, hnm]
            clear hnm HA2 HS2
            go_wp2_with fail
            go_roundw
            case rel => exact ⟨j + 1, bs, ba, by go_num, rfl, rfl, hjl, HA3, HS3, HB8.out⟩
            case measure => simp [intOf]; omega
        · have hji : ¬ (j : Int) < (nm : Int) := by omega
          have HA3 : Hid (ba = (itemsUp (L.map Oj.ms) (k + 1)).any (gv s)) := by show _ = _; rw [HA.out, itemsAt_all HMS.out (by rw [HNM.out]; omega)]
          have HS3 : Hid (bs = (itemsUp (L.map Oj.ms) (k + 1)).any (gs s)) := by show _ = _; rw [HS.out, itemsAt_all HMS.out (by rw [HNM.out]; omega)]
          clear HA HS
          go_wp2_with fail
          go_roundw
          case rel => exact ⟨k + 1, bs, ba, by go_num, rfl, rfl, hlt, (fun e => by cases e), HA3, HS3, HB.out⟩
          case measure => simp [intOf]; omega
    · have hi : ¬ (k : Int) < (nL : Int) := by omega
      have hkn : k = nL := by omega
      have hba : ba = ug := by
        rcases ok with _ | _
        · rw [HA.out, HK0.out rfl, itemsUp_zero, HNV.out rfl]; rfl
        · rw [HA.out, hkn]; exact HANY.out rfl
      rcases ug with _ | _
      · subst hba
        clear HK0 HA HS hkn HNV
        obtain ⟨rfl, rfl⟩ := HNOT.out rfl
        have HX9 := hidden (HX5.out.below HB.out HX5.out.lt)
        have x0 : wr.cell? ⟨qx, 0, none⟩ = some (.int .i64 0) := HX9.out.cell 0
        have x1 : wr.cell? ⟨qx, 1, none⟩ = some (.int .i64 0) := HX9.out.cell 1
        have HF := hidden (HB5.out.trans (HB.out.mono HB5.out.size))
        clear HX5 HX9 HB5 HTRUE HANY HSTR
        go_wp2_with (go_at_call 17; refine (alive_any _).mono ?_; rintro e _ ⟨rfl, rfl⟩)
        go_ret
        exact ⟨rfl, HF.out⟩
      have hok : ok = true := by
        rcases ok with _ | _
        · exact absurd (HNV.out rfl) (by simp)
        · rfl
      have hbs : bs = decide (0 < us) := by rw [HS.out, hkn]; exact HSTR.out hok
      obtain ⟨k2, j2, y, m, hy, hm, e1, e2, hn, hl, hb0, hb1⟩ := HTRUE.out rfl
      subst hn
      subst e1
      subst e2
      have hym := List.mem_of_getElem? hy
      have hk2 : k2 < nL := by rw [← HNL.out]; exact (List.getElem?_eq_some_iff.1 hy).1
      obtain ⟨b, off, rfl, hat⟩ := HAT.out k2 y hy
      have HC := hidden (HC5.out.trans (HB.out.mono HC5.out.size))
      obtain ⟨c0, c1⟩ := hat wr HC.out
      obtain ⟨b2, o2, ha2, hsc⟩ := HSY.out y hym j2 m hm
      obtain ⟨p0, p1, p2, p3⟩ := hsc wr HC.out
      have hj2 : j2 < y.ms.length := (List.getElem?_eq_some_iff.1 hm).1
      obtain ⟨yl, ym, ya1, yc1, ya2, yc2⟩ := y
      simp only at c0 c1 ha2 hj2
      subst ha2
      obtain ⟨nm, hnm⟩ : ∃ n, ym.length = n := ⟨_, rfl⟩
      rw [hnm] at c1 hj2
      obtain ⟨mn, mb, ml, mv⟩ := m
      simp only at p0 p1 p2 p3 hl hb0 hb1
      have x0 : wr.cell? ⟨qx, 0, none⟩ = some (.int .i64 (k2 : Int)) := (HX5.out.below HB.out HX5.out.lt).cell 0
      have x1 : wr.cell? ⟨qx, 1, none⟩ = some (.int .i64 (j2 : Int)) := (HX5.out.below HB.out HX5.out.lt).cell 1
      have d0 : decide ((k2 : Int) < 0) = false := by simp
      have d1 : decide (nL ≤ k2) = false := by simp; omega
      have d2 : (nL ≤ k2) = False := by simp; omega
      have d3 : decide ((j2 : Int) < 0) = false := by simp
      have d4 : decide (nm ≤ j2) = false := by simp; omega
      have d5 : (nm ≤ j2) = False := by simp; omega
      have hki : (k2 : Int) < (nL : Int) := by omega
      have hji : (j2 : Int) < (nm : Int) := by omega
      have z2 : (ml != -1) = true := by simp [hl]
      have z1 : (mb != 0) = true := by simp [hb0]
      have z3 : (mb == 1) = bs := by
        rw [hbs, Bool.eq_iff_iff, beq_iff_eq, decide_eq_true_eq]
        exact hb1
      have z4 : (bs == bs) = true := by simp
      have HCEL : Hid (∀ W, Below wr.heap.size wr W → W.cell? ⟨qx, 0, none⟩ = some (.int .i64 (k2 : Int)) ∧ W.cell? ⟨qx, 1, none⟩ = some (.int .i64 (j2 : Int)) ∧ W.cell? ⟨b, off + k2 * 2 + 1, none⟩ = some (.slice (some ⟨b2, o2, none⟩) nm yc2) ∧ W.cell? ⟨b2, o2 + j2 * 4, none⟩ = some (.string mn) ∧ W.cell? ⟨b2, o2 + j2 * 4 + 1, none⟩ = some (.int .i64 mb) ∧ W.cell? ⟨b2, o2 + j2 * 4 + 2, none⟩ = some (.int .i64 ml) ∧ W.cell? ⟨b2, o2 + j2 * 4 + 3, none⟩ = some (.int .i64 mv)) := fun W hW => by
        have hw := HC.out.trans (hW.mono HC.out.size)
        have hx := HX5.out.below (HB.out.trans (hW.mono HB.out.size)) HX5.out.lt
        obtain ⟨_, d1⟩ := hat W hw
        obtain ⟨e0, e1, e2, e3⟩ := hsc W hw
        have d1' : W.cell? ⟨b, off + k2 * 2 + 1, none⟩ = some (.slice (some ⟨b2, o2, none⟩) ym.length yc2) := d1
        rw [hnm] at d1'
        exact ⟨hx.cell 0, hx.cell 1, d1', e0, e1, e2, e3⟩
      have HF := hidden (HB5.out.trans (HB.out.mono HB5.out.size))
      clear HK0 HA HS hkn HNV HTRUE HNOT HANY HSTR hy hm hym hat hsc hnm hl hb0 hb1 hbs hok hba HC HB HB5 HX5
      go_wp2_with fail
      go_quiet (fail)
      go_wp2_with fail
      clear x0 x1 c0 c1 p0 p1 p2 p3
      refine wp_region_free (m := 1) (js := [.quiet (.slice (some ⟨b, off, none⟩) nL c) 0 1, .quiet (.pointer (some ⟨qx, 0, none⟩)) 0 1, .quiet (.int .i64 (k2 : Int)) 0 1, .quiet (.pointer (some ⟨b, off + k2 * 2, none⟩)) 0 1, .quiet (.pointer (some ⟨b, off + k2 * 2 + 1, none⟩)) 0 1, .quiet (.slice (some ⟨b2, o2, none⟩) nm yc2) 0 1, .quiet (.pointer (some ⟨qx, 1, none⟩)) 0 1, .quiet (.int .i64 (j2 : Int)) 0 1, .quiet (.pointer (some ⟨b2, o2 + j2 * 4, none⟩)) 0 1, .quiet (.agg #[.string mn, .int .i64 mb, .int .i64 ml, .int .i64 mv]) 0 1, .free 1, .chain 0 true]) (by kernel_rfl) (JT wr #[.string mn, .int .i64 mb, .int .i64 ml, .int .i64 mv]) (by kernel_rfl) (by kernel_rfl) ⟨fun _ => undef, ⟨(below_drewN (Below.refl _ _) _).drew, (fun e => absurd e (by decide)), (fun e => by cases e)⟩⟩ (fun vals => ?_) ?_
      · show SeqX _ _ _ _ _ _ _
        refine ⟨fun kk hlo hhi ff W hW => ?_, ?_⟩
        · unfold Oper.wp
          simp [go_sem]
          try exact ⟨_, rfl, rfl⟩
        simp only [Act.put, JobX.val, List.setIfInBounds_toArray, List.set_cons_succ, List.set_cons_zero]
        refine ⟨fun kk hlo hhi ff W hW => ?_, ?_⟩
        · unfold Oper.wp
          simp [go_sem]
          try exact ⟨_, rfl, rfl⟩
        simp only [Act.put, JobX.val, List.setIfInBounds_toArray, List.set_cons_succ, List.set_cons_zero]
        refine ⟨fun kk hlo hhi ff W hW => ?_, ?_⟩
        · obtain ⟨q0, q1, q2, q3, q4, q5, q6⟩ := HCEL.out W hW.bel
          unfold Oper.wp
          simp [go_sem, q0]
          try exact ⟨_, rfl, rfl⟩
        simp only [Act.put, JobX.val, List.setIfInBounds_toArray, List.set_cons_succ, List.set_cons_zero]
        refine ⟨fun kk hlo hhi ff W hW => ?_, ?_⟩
        · unfold Oper.wp
          simp [go_sem, hki]
          try exact ⟨_, rfl, rfl⟩
        simp only [Act.put, JobX.val, List.setIfInBounds_toArray, List.set_cons_succ, List.set_cons_zero]
        refine ⟨fun kk hlo hhi ff W hW => ?_, ?_⟩
        · unfold Oper.wp
          simp [go_sem]
          try exact ⟨_, rfl, rfl⟩
        simp only [Act.put, JobX.val, List.setIfInBounds_toArray, List.set_cons_succ, List.set_cons_zero]
        refine ⟨fun kk hlo hhi ff W hW => ?_, ?_⟩
        · obtain ⟨q0, q1, q2, q3, q4, q5, q6⟩ := HCEL.out W hW.bel
          unfold Oper.wp
          simp [go_sem, q2]
          try exact ⟨_, rfl, rfl⟩
        simp only [Act.put, JobX.val, List.setIfInBounds_toArray, List.set_cons_succ, List.set_cons_zero]
        refine ⟨fun kk hlo hhi ff W hW => ?_, ?_⟩
        · unfold Oper.wp
          simp [go_sem]
          try exact ⟨_, rfl, rfl⟩
        simp only [Act.put, JobX.val, List.setIfInBounds_toArray, List.set_cons_succ, List.set_cons_zero]
        refine ⟨fun kk hlo hhi ff W hW => ?_, ?_⟩
        · obtain ⟨q0, q1, q2, q3, q4, q5, q6⟩ := HCEL.out W hW.bel
          unfold Oper.wp
          simp [go_sem, q1]
          try exact ⟨_, rfl, rfl⟩
        simp only [Act.put, JobX.val, List.setIfInBounds_toArray, List.set_cons_succ, List.set_cons_zero]
        refine ⟨fun kk hlo hhi ff W hW => ?_, ?_⟩
        · unfold Oper.wp
          simp [go_sem, hji]
          try exact ⟨_, rfl, rfl⟩
        simp only [Act.put, JobX.val, List.setIfInBounds_toArray, List.set_cons_succ, List.set_cons_zero]
        refine ⟨fun kk hlo hhi ff W hW => ?_, ?_⟩
        · obtain ⟨q0, q1, q2, q3, q4, q5, q6⟩ := HCEL.out W hW.bel
          unfold Oper.wp
          simp [go_sem, q3, q4, q5, q6]
          try exact ⟨_, rfl, rfl⟩
        simp only [Act.put, JobX.val, List.setIfInBounds_toArray, List.set_cons_succ, List.set_cons_zero]
        refine ⟨fun kk W hW => ?_, ?_⟩
        · have hk0 : kk = 0 := by
            rcases Nat.eq_zero_or_pos kk with h | h
            · exact h
            · exact absurd (hW.late h) (by simp)
          have hN := hW.free hk0
          unfold Oper.wp
          simp [go_sem]
          first | exact hN | exact ⟨_, rfl, hN⟩
        simp only [Act.put, JobX.val, List.setIfInBounds_toArray, List.set_cons_succ, List.set_cons_zero]
        refine ⟨fun ff W hwt hW => ?_, trivial⟩
        have hft := hwt rfl
        subst hft
        obtain ⟨g, hv, hgl, hG⟩ := hW.fr rfl
        have hG' : Has W g 37 #[.string ⟨#[]⟩, .int .i64 0, .int .i64 0, .int .i64 0] := hG
        have q0 : W.cell? ⟨g, 0, none⟩ = some (.string ⟨#[]⟩) := hG'.cell 0
        have q1 : W.cell? ⟨g, 1, none⟩ = some (.int .i64 0) := hG'.cell 1
        have q2 : W.cell? ⟨g, 2, none⟩ = some (.int .i64 0) := hG'.cell 2
        have q3 : W.cell? ⟨g, 3, none⟩ = some (.int .i64 0) := hG'.cell 3
        have f0 : W.frozen? ⟨g, 0, none⟩ = false := hG'.free 0
        have f1 : W.frozen? ⟨g, 1, none⟩ = false := hG'.free 1
        have f2 : W.frozen? ⟨g, 2, none⟩ = false := hG'.free 2
        have f3 : W.frozen? ⟨g, 3, none⟩ = false := hG'.free 3
        have hN := fun x => hW.c0 hv x
        rw [hv]
        unfold Oper.wp
        simp [go_sem, q0, q1, q2, q3, f0, f1, f2, f3]
        first | exact hN _ | exact ⟨undef, hN _⟩ | exact ⟨_, rfl, hN _⟩
      · intro ff W9 vals hff hJ
        have hft := hff rfl
        subst hft
        obtain ⟨g, hv, hgl, hG⟩ := hJ.fr rfl
        have hG' : Has W9 g 37 #[.string mn, .int .i64 mb, .int .i64 ml, .int .i64 mv] := hG
        have s0 : W9.cell? ⟨g, 0, none⟩ = some (.string mn) := hG'.cell 0
        have s1 : W9.cell? ⟨g, 1, none⟩ = some (.int .i64 mb) := hG'.cell 1
        have s2 : W9.cell? ⟨g, 2, none⟩ = some (.int .i64 ml) := hG'.cell 2
        have HF9 := hidden (HF.out.trans (hJ.bel.mono HF.out.size))
        simp only [putAll, List.map_cons, List.map_nil, JobX.val, Act.put, List.setIfInBounds_toArray, List.set_cons_succ, List.set_cons_zero]
        rw [hv]
        clear hJ hG hG' hff hv HCEL HF
        go_wp2_with fail
        go_ret
        exact ⟨rfl, HF9.out⟩

end Go.Proofs.Ytjakkiidedmifaa

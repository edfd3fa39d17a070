import Derived.Deep.CutBlock
import Derived.Test.YtpfombelhajmlaaGreatDoorRdN
import Derived.Test.YtpfombelhajmlaaGreatDoorHexI
import Derived.Test.YtpfombelhajmlaaGreatDoorDmpI
import Derived.Test.YtpfombelhajmlaaGreatDoorDrC
namespace Go.Proofs.YtpfombelhajmlaaGreatDoor
open Go.RowKit
structure JSc (w2 wb : World) (h3 : Nat) (vs vm : Value) (ss : List Sp) (ns : Nat) (ms : List Sm) (nm : ByteArray) (kd al sz : Int) (a1 : Option Addr) (nb c1 : Nat) (bs : List Int) (k : Nat) (W : World) (vals : Nat → Value) : Prop where
  high : h3 ≤ W.heap.size
  rs : k ≤ 1 → RS wb W nm kd al sz (.slice a1 nb c1) (.slice none 0 0) bs []
  arr : k = 1 → ∃ q, vals 0 = .slice (some ⟨q, 0, none⟩) 1 1 ∧ Has W q 52 #[.string nm, .int .i64 kd, .int .i64 al, .slice a1 nb c1, .int .i64 sz, .slice none 0 0]
  app : k = 2 → ∃ a c, vals 1 = .slice a (ns + 1) c ∧ Has W w2.heap.size 26 #[vs, vm] ∧ RO w2 (W.setCell ⟨w2.heap.size, 0, none⟩ (.slice a (ns + 1) c)) (.slice a (ns + 1) c) vm (ss ++ [⟨⟨nm, kd, al, bs, sz, []⟩, a1, c1, none, 0⟩]) ms
  fin : k = 3 → ∃ a c, RO w2 W (.slice a (ns + 1) c) vm (ss ++ [⟨⟨nm, kd, al, bs, sz, []⟩, a1, c1, none, 0⟩]) ms
theorem RdSt.addS {w2 W W0 : World} {vs vm v0 : Value} {ss : List Sp} {ms : List Sm} {k : Nat} {y : Sp} (h : RdSt w2 W0 v0 vm ss ms k) (hf : y.s.fits) (h0 : y.a2 = none) (hn : y.s.fixs = []) (hs : W0.heap.size ≤ W.heap.size) (hr : RO w2 W vs vm (ss ++ [y]) ms) : RdSt w2 W vs vm (ss ++ [y]) ms (k + 1) := by
  refine ⟨⟨hr, W0.heap.size, hs, fun s0 u e => ?_⟩, ?_, by have := h.nm; omega, fun u hu => ?_, fun u hu => ?_, h.fm⟩
  · obtain ⟨e1, e2⟩ := List.append_inj' e rfl
    have e3 : y = u := by simpa using e2
    subst e1
    subst e3
    exact ⟨fun g hg => (by rw [h0] at hg; cases hg), fun z hz g hg => (own_at (h.rol.ro.secs.own2 z hz) g hg).2.2⟩
  · have := h.ns
    rw [List.length_append, List.length_singleton]; omega
  · rcases List.mem_append.1 hu with h1 | h1
    · have := h.nf u h1; omega
    · rw [List.mem_singleton.1 h1, hn]; exact Nat.zero_le _
  · rcases List.mem_append.1 hu with h1 | h1
    · exact h.fs u h1
    · rw [List.mem_singleton.1 h1]; exact hf
theorem secI_few {ws : List ByteArray} (h : ws.length < 4 ∨ 5 < ws.length) : secI ws = none := by unfold secI; rw [if_pos h]
theorem secI_none {ws : List ByteArray} (h : ¬ (ws.length < 4 ∨ 5 < ws.length)) (hn : numsI ((ws.drop 1).take 3) = none) : secI ws = none := by unfold secI; rw [if_neg h, hn]
theorem secI_some {ws : List ByteArray} {k a z : Int} (h : ¬ (ws.length < 4 ∨ 5 < ws.length)) (hn : numsI ((ws.drop 1).take 3) = some [k, a, z]) : secI ws = if ws.length = 5 then (rdHexL (numsOf (ws.getD 4 ⟨#[]⟩))).map fun b => ⟨ws.getD 0 ⟨#[]⟩, k, a, b, if k = 3 then z else 0, []⟩ else some ⟨ws.getD 0 ⟨#[]⟩, k, a, [], if k = 3 then z else 0, []⟩ := by unfold secI; rw [if_neg h, hn]
theorem rhx_some {t l : List Int} (h : rdHexL t = some l) : rhx t = (l, true) := by unfold rhx; rw [h]
theorem rhx_none {t : List Int} (h : rdHexL t = none) : rhx t = ([], false) := by unfold rhx; rw [h]
set_option maxRecDepth 100000 in
set_option maxHeartbeats 4000000 in
theorem readSectionWords_any (w2 W : World) (hL : Libs W) (hl2 : libTop ≤ w2.heap.size) (vs vm : Value) (ss : List Sp) (ms : List Sm) (k : Nat) (h : RdSt w2 W vs vm ss ms k) (hk : k ≤ 2000000) (a : Option Addr) (n c : Nat) (ws : List ByteArray) (hn : n = ws.length) (hnc : n ≤ c) (hcm : c ≤ 1000) (hw : WordsAt W a ws) (hsz : ∀ s ∈ ws, s.size ≤ 1048576)
    (r : Option (List Sx × List Sm)) (hr : ((secI ws).map fun x => (ss.map Sp.s ++ [x], ms)) = r) :
    Calls Tryz.prog 64 #[.pointer (some ⟨w2.heap.size, 0, none⟩), .slice a n c] W (StepN w2 (k + 1) r) := by
  by_cases hbad : n < 4 ∨ 5 < n
  · have HR : Hid (r = none) := by show _ = _; rw [← hr, secI_few (by omega)]; rfl
    have HB := hidden h.rol.ro.below
    clear h hw hL hn hsz hr
    rcases hbad with hb | hb
    · have hi : (n : Int) < 4 := by omega
      go_enter Tryz.func64, Tryz.ntmps64
      go_wp2_with fail
      go_ret
      rw [HR.out]
      exact ⟨HB.out, rfl⟩
    · have hi : ¬ (n : Int) < 4 := by omega
      have hi2 : (5 : Int) < (n : Int) := by omega
      go_enter Tryz.func64, Tryz.ntmps64
      go_wp2_with fail
      go_ret
      rw [HR.out]
      exact ⟨HB.out, rfl⟩
  have hi : ¬ (n : Int) < 4 := by omega
  have hi2 : ¬ (5 : Int) < (n : Int) := by omega
  have HBAD : Hid (¬ (ws.length < 4 ∨ 5 < ws.length)) := by show ¬ _; omega
  obtain ⟨g, off, wcs, rfl, hwg, hwc⟩ := hw (by omega)
  obtain ⟨nm, hnm⟩ : ∃ t, ws[0]? = some t := ⟨_, List.getElem?_eq_getElem (by omega)⟩
  have hnm0 : ws.getD 0 ⟨#[]⟩ = nm := by rw [List.getD_eq_getElem?_getD, hnm]; rfl
  have hnms : nm.size ≤ 1048576 := hsz nm (List.mem_of_getElem? hnm)
  have c0 : W.cell? ⟨g, off, none⟩ = some (.string nm) := by have := (hwg.cell (off + 0)).trans (hwc 0 nm hnm); rwa [Nat.add_zero] at this
  obtain ⟨X, hX⟩ : ∃ q, W.alloc (.cells #[.string nm, .int .i64 0, .int .i64 0, .slice none 0 0, .int .i64 0, .slice none 0 0] 52) = q := ⟨_, rfl⟩
  obtain ⟨sb, hsb⟩ : ∃ q, W.heap.size = q := ⟨_, rfl⟩
  have hbX : Below W.heap.size W X := by rw [← hX]; exact (Below.refl _ _).alloc (Nat.le_refl _) _
  have hxs : Has X sb 52 #[.string nm, .int .i64 0, .int .i64 0, .slice none 0 0, .int .i64 0, .slice none 0 0] := by rw [← hX, ← hsb]; exact Has.new _ _ _
  obtain ⟨Z, hZ⟩ : ∃ q, X.alloc (.cells #[.int .i64 0] 3) = q := ⟨_, rfl⟩
  obtain ⟨zb, hzb⟩ : ∃ q, X.heap.size = q := ⟨_, rfl⟩
  have hbZ : Below X.heap.size X Z := by rw [← hZ]; exact (Below.refl _ _).alloc (Nat.le_refl _) _
  have hzs : Has Z zb 3 #[.int .i64 0] := by rw [← hZ, ← hzb]; exact Has.new _ _ _
  obtain ⟨Y, hY⟩ : ∃ q, Z.alloc (.cells #[.pointer (some ⟨sb, 1, none⟩), .pointer (some ⟨sb, 2, none⟩), .pointer (some ⟨zb, 0, none⟩)] 115) = q := ⟨_, rfl⟩
  obtain ⟨pb, hpb⟩ : ∃ q, Z.heap.size = q := ⟨_, rfl⟩
  have hbY : Below Z.heap.size Z Y := by rw [← hY]; exact (Below.refl _ _).alloc (Nat.le_refl _) _
  have hbXY : Below X.heap.size X Y := hbZ.trans (hbY.mono hbZ.size)
  have hbWY : Below W.heap.size W Y := hbX.trans (hbXY.mono hbX.size)
  have hps : Has Y pb 115 #[.pointer (some ⟨sb, 1, none⟩), .pointer (some ⟨sb, 2, none⟩), .pointer (some ⟨zb, 0, none⟩)] := by rw [← hY, ← hpb]; exact Has.new _ _ _
  have hxy : Has Y sb 52 #[.string nm, .int .i64 0, .int .i64 0, .slice none 0 0, .int .i64 0, .slice none 0 0] := hxs.below hbXY hxs.lt
  have hzy : Has Y zb 3 #[.int .i64 0] := hzs.below hbY hzs.lt
  obtain ⟨a2, ha2⟩ : ∃ q : Option Addr, (if c = 1 then some (⟨g, off, none⟩ : Addr) else (some (⟨g, off, none⟩ : Addr)).map (·.add (1 * 1))) = q := ⟨_, rfl⟩
  have hwd : WordsAt Y a2 ((ws.drop 1).take 3) := by rw [← ha2]; exact (((hw.drop (k := 1) (cap := c) (by omega)).take 3).below hbWY (Nat.le_refl _))
  have hsW : W.heap.size ≤ sb := by omega
  have hsz2 : sb ≤ zb := by have := hbX.size; omega
  have hl2W : w2.heap.size ≤ W.heap.size := Nat.le_of_lt h.rol.ro.obj.lt
  have hne : sb ≠ zb := by have h1 := hxs.lt; omega
  have hlen3 : ((ws.drop 1).take 3).length = 3 := by rw [List.length_take, List.length_drop]; omega
  have hRN := hidden (readNumbers_any Y (hL.below hbWY hL.lt) sb (by omega) (Nat.le_of_lt hxy.lt) a2 3 (c - 1) ((ws.drop 1).take 3) hlen3.symm hwd (fun s hs => by have := hsz s (List.mem_of_mem_drop (List.mem_of_mem_take hs)); omega) pb 3 3 [(sb, 1), (sb, 2), (zb, 0)] rfl hps (by
    intro p hp
    have hc : p = (sb, 1) ∨ p = (sb, 2) ∨ p = (zb, 0) := by simpa using hp
    rcases hc with rfl | rfl | rfl
    · exact ⟨Nat.le_refl _, _, _, hxy, by show 1 < 6; decide, by decide, by decide⟩
    · exact ⟨Nat.le_refl _, _, _, hxy, by show 2 < 6; decide, by decide, by decide⟩
    · exact ⟨hsz2, _, _, hzy, by show 0 < 1; decide, by decide, by decide⟩) (by decide) (by decide))
  have ht : Tryz.prog.underlying 28 = some (.slice (Tryz.prog.elem 28)) := by kernel_rfl
  have hs1 : ∀ W' : World, (Instr.slice 28 (.slice (some ⟨g, off, none⟩) n c) (some (.int .i64 1)) (some (.int .i64 4)) none).run Tryz.prog W' = .ok (.slice a2 3 (c - 1)) W' := fun W' => by
    have hz : (sizeOf (Tryz.prog.elem 28)).run Tryz.prog W' = .ok 1 W' := by kernel_rfl
    have := run_slice_lh W' 28 (some (⟨g, off, none⟩ : Addr)) n c ht .i64 .i64 1 4 (by omega) (by omega) (by omega)
    rw [this, hz]
    simp only [Result.andThen, sliced]
    rw [← ha2]
    rfl
  have HS := hidden h
  have HXY := hidden hxy
  have HZY := hidden hzy
  have HBWY := hidden hbWY
  have HNM := hidden hnm0
  have HR := hidden hr
  have HXE := hidden hX
  have HNE := hidden hne
  have HWG := hidden hwg
  have HWC := hidden hwc
  have HSZ := hidden hsz
  have HN := hidden hn
  have HL3 := hidden hlen3
  have HZE := hidden hZ
  clear h hw hL hn hwg hwc hnm hbX hbY hbWY hbXY hbZ hps hxy hzy hzs hwd hnm0 hxs ha2 ht hsz hX hr hlen3 hne hZ hbad
  go_enter Tryz.func64, Tryz.ntmps64
  go_upto_region 4 with fail
  try rw [HXE.out]
  try rw [hsb]
  clear c0 HXE
  go_upto_region 5 with fail
  try rw [HZE.out]
  try rw [hzb]
  clear HZE
  go_wp2_with fail
  refine hRN.out.mono ?_
  rintro e w3 ⟨hb3, hra⟩
  have HB3 : Hid (Below W.heap.size W w3) := HBWY.out.trans (hb3.mono hsW)
  cases hq : (if ((ws.drop 1).take 3).length = [(sb, 1), (sb, 2), (zb, 0)].length then numsI ((ws.drop 1).take 3) else none) with
  | none =>
    rw [hq] at hra
    have HF : Hid (r = none) := by
      show _ = _
      rw [if_pos (show ((ws.drop 1).take 3).length = [(sb, 1), (sb, 2), (zb, 0)].length from HL3.out)] at hq
      rw [← HR.out, secI_none HBAD.out hq]; rfl
    have hr' : e = .returned (.bool false) := hra
    subst hr'
    have HBF := hidden (HS.out.only HB3.out).rol.ro.below
    clear hra hq hb3 hRN
    go_wp2_with fail
    go_ret
    rw [HF.out]
    exact ⟨HBF.out, rfl⟩
  | some us =>
    rw [hq] at hra
    rw [if_pos (show ((ws.drop 1).take 3).length = [(sb, 1), (sb, 2), (zb, 0)].length from HL3.out)] at hq
    obtain ⟨kd, al, z, rfl, i1, i2, i3⟩ := numsI3 hq HL3.out
    obtain ⟨rfl, hall⟩ := hra
    have hsec := secI_some HBAD.out hq
    rw [HNM.out] at hsec
    have HSEC := hidden hsec
    have hcs : Has w3 sb 52 #[.string nm, .int .i64 kd, .int .i64 al, .slice none 0 0, .int .i64 0, .slice none 0 0] := by
      have := hall sb _ _ HXY.out
      have hu : updN [(sb, 1), (sb, 2), (zb, 0)] [kd, al, z] sb #[.string nm, .int .i64 0, .int .i64 0, .slice none 0 0, .int .i64 0, .slice none 0 0] = #[.string nm, .int .i64 kd, .int .i64 al, .slice none 0 0, .int .i64 0, .slice none 0 0] := by
        unfold updN
        simp [HNE.out.symm]
      rwa [hu] at this
    have hcz : Has w3 zb 3 #[.int .i64 z] := by
      have := hall zb _ _ HZY.out
      have hu : updN [(sb, 1), (sb, 2), (zb, 0)] [kd, al, z] zb #[.int .i64 0] = #[.int .i64 z] := by
        unfold updN
        simp [HNE.out]
      rwa [hu] at this
    have HRS3 : Hid (RS W w3 nm kd al 0 (.slice none 0 0) (.slice none 0 0) [] []) := ⟨HB3.out, by rw [hsb]; exact hcs, World.ownsRow_nil _ _ _ _, World.ownsRow_nil _ _ _ _⟩
    have HI3 := hidden (And.intro i1 (And.intro i2 i3))
    have p1 : w3.cell? ⟨sb, 1, none⟩ = some (.int .i64 kd) := hcs.cell 1
    have p4 : w3.cell? ⟨sb, 4, none⟩ = some (.int .i64 0) := hcs.cell 4
    have f4 := hcs.free 4
    have z0 : w3.cell? ⟨zb, 0, none⟩ = some (.int .i64 z) := hcz.cell 0
    clear hq hsec hall hcs hcz hb3 hRN i1 i2 i3
    go_upto_if 30 with fail
    go_cut [] from 7 (fun wx => ∃ sz : Int, Hid (sz = if kd = 3 then z else 0) ∧ Hid (RS W wx nm kd al sz (.slice none 0 0) (.slice none 0 0) [] []))
    case first =>
      by_cases hk3 : kd = 3
      · have HZ3 := hidden (HRS3.out.size z)
        have HSS : Hid (z = if kd = 3 then z else 0) := by show _ = _; rw [if_pos hk3]
        rw [hsb] at HZ3
        subst hk3
        go_wp2_with fail
        go_meet
        exact ⟨z, HSS, HZ3⟩
      · have hk3' : (kd == 3) = false := by simp [hk3]
        have HSS : Hid (0 = if kd = 3 then z else 0) := by show _ = _; rw [if_neg hk3]
        go_wp2_with fail
        go_meet
        exact ⟨0, HSS, HRS3⟩
    case rest =>
      obtain ⟨sz, HSZV, HRS4⟩ := hcut
      clear p1 p4 f4 z0 HRS3
      go_upto_if 35 with fail
      go_cut [] from 7 (fun wx => ∃ (a1 : Option Addr) (c1 : Nat) (bs : List Int), Hid (secI ws = some ⟨nm, kd, al, bs, sz, []⟩) ∧ Hid (RS W wx nm kd al sz (.slice a1 bs.length c1) (.slice none 0 0) bs []) ∧ Hid (∀ x ∈ bs, (Lit.int .u8 x).wf = true) ∧ bs.length ≤ 1048576)
      case first =>
        by_cases h5 : n = 5
        · have h5i : ((n : Int) == 5) = true := by simp; omega
          obtain ⟨t4, ht4⟩ : ∃ t, ws[4]? = some t := ⟨_, List.getElem?_eq_getElem (by have := HN.out; omega)⟩
          have hwg4 := HWG.out.below HRS4.out.below HWG.out.lt
          have c4 : wc.cell? ⟨g, off + 4, none⟩ = some (.string t4) := (hwg4.cell _).trans (HWC.out 4 t4 ht4)
          have hs4 := HSZ.out t4 (List.mem_of_getElem? ht4)
          have HRH := hidden (wantReadHex wc t4 (by omega))
          have ht40 : ws.getD 4 ⟨#[]⟩ = t4 := by rw [List.getD_eq_getElem?_getD, ht4]; rfl
          have HT4 := hidden ht40
          have hlt : (4 : Int) < (n : Int) := by omega
          clear ht4 hwg4 ht40
          go_wp2_with fail
          refine HRH.out.mono ?_
          rintro e w5 ⟨v, rfl, hrow, hb5⟩
          cases hx : rdHexL (numsOf t4) with
          | none =>
            have hh := rhx_none hx
            rw [hh]
            have HF : Hid (r = none) := by show _ = _; rw [← HR.out, HSEC.out, if_pos (by have := HN.out; omega), HT4.out, hx]; rfl
            have HBF := hidden (HS.out.only (HRS4.out.below.trans (hb5.mono HRS4.out.below.size))).rol.ro.below
            obtain ⟨av, cv, rfl⟩ := own_shape hrow
            clear hrow hb5 hx HRH c4 hh
            go_wp2_with fail
            go_ret
            rw [HF.out]
            exact ⟨HBF.out, rfl⟩
          | some l =>
            have hh := rhx_some hx
            have hlenl := rhx_length (numsOf t4)
            have hwfl := rhx_wf (numsOf t4)
            rw [hh] at hrow hlenl hwfl ⊢
            simp only at hrow hlenl hwfl ⊢
            rw [numsOf_length] at hlenl
            obtain ⟨av, cv, rfl⟩ := own_shape hrow
            have HSI : Hid (secI ws = some ⟨nm, kd, al, l, sz, []⟩) := by show _ = _; rw [HSEC.out, if_pos (by have := HN.out; omega), HT4.out, hx, HSZV.out]; rfl
            have hrow' : w5.ownsRow W.heap.size 5 1 (.slice av l.length cv) l.length (l.map (Value.int .u8)) := row_lower hrow HRS4.out.below.size
            have hsec5 := (HRS4.out.kept (grown_only hb5)).sec
            rw [hsb] at hsec5
            have p3 : w5.cell? ⟨sb, 3, none⟩ = some (.slice none 0 0) := hsec5.cell 3
            have f3 := hsec5.free 3
            have HRS5 := hidden (HRS4.out.bytes (grown_only hb5) hrow')
            rw [hsb] at HRS5
            have HWF := hidden hwfl
            have hl20 : l.length ≤ 1048576 := by omega
            clear hrow hb5 hx HRH c4 hh hrow' hsec5 hwfl hlenl
            go_wp2_with fail
            go_meet
            exact ⟨av, cv, l, HSI, HRS5, HWF, hl20⟩
        · have h5i : ((n : Int) == 5) = false := by simp; omega
          have HSI : Hid (secI ws = some ⟨nm, kd, al, [], sz, []⟩) := by show _ = _; rw [HSEC.out, if_neg (by have := HN.out; omega), HSZV.out]
          go_wp2_with fail
          go_meet
          exact ⟨none, 0, [], HSI, HRS4, (fun x hx => absurd hx (by simp)), Nat.zero_le _⟩
      case rest =>
        obtain ⟨a1, c1, bs, HSI, HRS5, HWF, hbl⟩ := hcut
        have HF : Hid (r = some (ss.map Sp.s ++ [(⟨nm, kd, al, bs, sz, []⟩ : Sx)], ms)) := by show _ = _; rw [← HR.out, HSI.out]; rfl
        obtain ⟨ns, hns⟩ : ∃ q, ss.length = q := ⟨_, rfl⟩
        have HNS := hidden hns
        have hns2 : ns ≤ 2000000 := by rw [← hns]; have := HS.out.ns; omega
        obtain ⟨av, cv, hvs⟩ := own_shape HS.out.rol.ro.secs.row
        rw [hns] at hvs
        have HVS := hidden hvs
        obtain ⟨nb, hnb⟩ : ∃ q, bs.length = q := ⟨_, rfl⟩
        have HNB := hidden hnb
        rw [hnb] at HRS5 hbl
        obtain ⟨ob, hob⟩ : ∃ q, w2.heap.size = q := ⟨_, rfl⟩
        have HOB := hidden hob
        obtain ⟨i1', hi1, hy0, hy1, hy2⟩ := info_parts Tryz.info_section
        have hdr : Below wc.heap.size wc wc.drew := ⟨rfl, rfl, rfl, Nat.le_refl _, fun _ _ => rfl⟩
        have hJ0 : Hid (JSc w2 W wc.heap.size vs vm ss ns ms nm kd al sz a1 nb c1 bs 0 wc.drew fun _ => undef) := ⟨Nat.le_refl _, fun _ => HRS5.out.kept (grown_only hdr), fun h => absurd h (by decide), fun h => absurd h (by decide), fun h => absurd h (by decide)⟩
        have HSB := hidden hsb
        have HFITS : Hid (Sx.fits ⟨nm, kd, al, bs, sz, []⟩) := by
          obtain ⟨i1, i2, i3⟩ := HI3.out
          refine ⟨by show nm.size ≤ maxLen; unfold maxLen; omega, i1, i2, ?_, by show bs.length ≤ _; rw [HNB.out]; omega, Nat.zero_le _, fun f hf => by cases hf⟩
          show I64 sz
          rw [HSZV.out]
          split
          · exact i3
          · exact ⟨by omega, by omega⟩
        have hW2 : wc.heap.size ≤ wc.heap.size := Nat.le_refl _
        rw [hob]
        clear hns hvs hnb hob hdr HRS4 HSEC hW2
        go_upto_region 14 with fail
        refine wp_region_chain (m := 3) (js := [.quiet (.pointer (some ⟨ob, 0, none⟩)) 3, .quiet (.pointer (some ⟨ob, 0, none⟩)) 3, .quiet (.pointer (some ⟨ob, 0, none⟩)) 3, .quiet (.pointer (some ⟨ob, 0, none⟩)) 3, .quiet (.slice av ns cv) 1, .quiet (.agg #[.string nm, .int .i64 kd, .int .i64 al, .slice a1 nb c1, .int .i64 sz, .slice none 0 0]) 0, .chain 0, .chain 1, .quiet (.pointer (some ⟨ob, 0, none⟩)) 3, .quiet (.pointer (some ⟨ob, 0, none⟩)) 3, .chain 2]) (by kernel_rfl) (JSc w2 W wc.heap.size vs vm ss ns ms nm kd al sz a1 nb c1 bs) (by kernel_rfl) (by kernel_rfl) ⟨_, hJ0.out⟩ (fun vals => ?_) ?_
        · show SeqW _ _ _ _ _ _ _
          iterate 4
            refine ⟨fun kk hkk W' hW => ?_, ?_⟩
            · unfold Oper.wp
              simp [go_sem]
              try exact ⟨_, rfl, rfl⟩
            simp only [Act.put, List.setIfInBounds_toArray, List.set_cons_succ, List.set_cons_zero]
          refine ⟨fun kk hkk W' hW => ?_, ?_⟩
          · have ho := (HS.out.rol.ro.kept (grown_only (hW.rs hkk).below)).obj.cell 0
            have q : W'.cell? ⟨ob, 0, none⟩ = some (.slice av ns cv) := by rw [← HOB.out, ← HVS.out]; exact ho
            unfold Oper.wp
            simp [go_sem, q]
            try exact ⟨_, rfl, rfl⟩
          simp only [Act.put, List.setIfInBounds_toArray, List.set_cons_succ, List.set_cons_zero]
          refine ⟨fun kk hkk W' hW => ?_, ?_⟩
          · have hh := (hW.rs (by omega)).sec
            rw [HSB.out] at hh
            have q0 : W'.cell? ⟨sb, 0, none⟩ = some (.string nm) := hh.cell 0
            have q1 : W'.cell? ⟨sb, 1, none⟩ = some (.int .i64 kd) := hh.cell 1
            have q2 : W'.cell? ⟨sb, 2, none⟩ = some (.int .i64 al) := hh.cell 2
            have q3 : W'.cell? ⟨sb, 3, none⟩ = some (.slice a1 nb c1) := hh.cell 3
            have q4 : W'.cell? ⟨sb, 4, none⟩ = some (.int .i64 sz) := hh.cell 4
            have q5 : W'.cell? ⟨sb, 5, none⟩ = some (.slice none 0 0) := hh.cell 5
            unfold Oper.wp
            simp [go_sem, q0, q1, q2, q3, q4, q5]
            try exact ⟨_, rfl, rfl⟩
          simp only [Act.put, List.setIfInBounds_toArray, List.set_cons_succ, List.set_cons_zero]
          refine ⟨fun W' hW => ?_, ?_⟩
          · have hN : JSc w2 W wc.heap.size vs vm ss ns ms nm kd al sz a1 nb c1 bs 1 (W'.alloc (.cells #[.string nm, .int .i64 kd, .int .i64 al, .slice a1 nb c1, .int .i64 sz, .slice none 0 0] 52)) (upd vals 0 (.slice (some ⟨W'.heap.size, 0, none⟩) 1 1)) := ⟨Nat.le_trans hW.high (by simp), fun _ => (hW.rs (by decide)).alloc _, fun _ => ⟨W'.heap.size, rfl, Has.new _ _ _⟩, fun h => absurd h (by decide), fun h => absurd h (by decide)⟩
            unfold Oper.wp
            simp [go_sem]
            first | exact hN | exact ⟨_, rfl, hN⟩
          simp only [Act.put, List.setIfInBounds_toArray, List.set_cons_succ, List.set_cons_zero]
          refine ⟨fun W' hW => ?_, ?_⟩
          · obtain ⟨qb, hv, hh⟩ := hW.arr rfl
            have hrs := hW.rs (by decide)
            have hro := HS.out.rol.ro.kept (grown_only hrs.below)
            have hrow := hro.secs.row
            rw [HNS.out] at hrow
            rw [HVS.out] at hrow
            refine wp_append_own W' _ _ _ rfl (w2.heap.size + 1) 52 i1' (.agg #[.string ⟨#[]⟩, .int .i64 0, .int .i64 0, .slice none 0 0, .int .i64 0, .slice none 0 0]) 6 88 Tryz.underlying23 hi1 hy0 hy1 hy2 rfl (by decide) _ _ _ rfl hrow ⟨qb, 0, none⟩ 1 1 [.string nm, .int .i64 kd, .int .i64 al, .slice a1 nb c1, .int .i64 sz, .slice none 0 0] hv ?_ ?_ ?_ ?_ ?_ ?_ ?_
            · rfl
            · intro t u ht
              rw [addr_row, hh.cell t]
              simpa using ht
            · intro u hu
              simp at hu
              rcases hu with rfl | rfl | rfl | rfl | rfl | rfl <;> rfl
            · unfold maxLen; omega
            · omega
            · exact hro.obj.lt
            · intro v' w' h2 h3 _
              obtain ⟨b2, d2, rfl⟩ := own_shape h2
              have h3' : W'.grownBy w' vs.ownBlock := by rw [HVS.out]; exact h3
              have hrs' : RS W W' nm kd al sz (.slice a1 bs.length c1) (.slice none ([] : List Fx).length 0) bs [] := by rw [HNB.out]; exact hrs
              obtain ⟨q1, q2⟩ := RO.app HS.out.rol.ro hrs' HWF.out h3' (v' := .slice b2 (ns + 1) d2) (by rw [HNS.out, HNB.out]; exact h2)
              exact ⟨_, rfl, ⟨Nat.le_trans hW.high h3.size, fun h => absurd h (by decide), fun h => absurd h (by decide), fun _ => ⟨b2, d2, rfl, q1, q2⟩, fun h => absurd h (by decide)⟩⟩
          simp only [Act.put, List.setIfInBounds_toArray, List.set_cons_succ, List.set_cons_zero]
          iterate 2
            refine ⟨fun kk hkk W' hW => ?_, ?_⟩
            · unfold Oper.wp
              simp [go_sem]
              try exact ⟨_, rfl, rfl⟩
            simp only [Act.put, List.setIfInBounds_toArray, List.set_cons_succ, List.set_cons_zero]
          refine ⟨fun W' hW => ?_, trivial⟩
          obtain ⟨b2, d2, hv2, q1, q2⟩ := hW.app rfl
          have htop := hW.high
          rw [hv2]
          have ck : W'.cell? ⟨ob, 0, none⟩ = some (.slice av ns cv) := by rw [← HOB.out, ← HVS.out]; exact q1.cell 0
          have fk : W'.frozen? ⟨ob, 0, none⟩ = false := by rw [← HOB.out]; exact q1.free 0
          rw [HOB.out] at q2
          have hN : ∀ uu, JSc w2 W wc.heap.size vs vm ss ns ms nm kd al sz a1 nb c1 bs 3 (W'.setCell ⟨ob, 0, none⟩ (.slice b2 (ns + 1) d2)) (upd vals 2 uu) := fun uu => ⟨Nat.le_trans htop (by simp), fun h => absurd h (by decide), fun h => absurd h (by decide), fun h => absurd h (by decide), fun _ => ⟨b2, d2, q2⟩⟩
          clear q1 q2 hW
          unfold Oper.wp
          simp [go_sem, ck, fk]
          first | exact hN _ | exact ⟨undef, hN _⟩ | exact ⟨_, rfl, hN _⟩
        · intro W5 vals hJ
          obtain ⟨b2, d2, hro3⟩ := hJ.fin rfl
          have hWW : W.heap.size ≤ W5.heap.size := Nat.le_trans HRS5.out.below.size hJ.high
          have HFF : Hid (StepN w2 (k + 1) (some (ss.map Sp.s ++ [(⟨nm, kd, al, bs, sz, []⟩ : Sx)], ms)) (.returned (.bool true)) W5) :=
            ⟨hro3.below, rfl, _, _, _, _, HS.out.addS HFITS.out rfl rfl hWW hro3, by rw [List.map_append]; rfl, rfl⟩
          simp only [putAll, List.map_cons, List.map_nil, Job.val, Act.put, List.setIfInBounds_toArray, List.set_cons_succ, List.set_cons_zero]
          clear hro3 hJ hJ0
          go_wp2_with fail
          go_ret
          rw [HF.out]
          exact HFF.out
end Go.Proofs.YtpfombelhajmlaaGreatDoor
namespace Go.Proofs.YtpfombelhajmlaaGreatDoor
open Go.RowKit
theorem splitB_small (sep : ByteArray) (sv : Nat) : ∀ (k : Nat) (s t : ByteArray), t ∈ Lib.splitB sep sv k s → t.size ≤ s.size
  | 0, s, t, h => by
    have : t = s := by simpa [Lib.splitB] using h
    rw [this]; exact Nat.le_refl _
  | k + 1, s, t, h => by
    unfold Lib.splitB at h
    split at h
    · rw [List.mem_singleton.1 h]; exact Nat.le_refl _
    · rcases List.mem_cons.1 h with rfl | h
      · rw [ByteArray.size_extract]; omega
      · have := splitB_small sep sv k _ t h
        rw [ByteArray.size_extract] at this; omega
theorem wordsI_ne (s : ByteArray) : 0 < (wordsI s).length := by
  unfold wordsI
  generalize min 7 (s.size + 1) - 1 = k
  cases k with
  | zero => simp [Lib.splitB]
  | succ k => unfold Lib.splitB; split <;> simp
theorem wordsI_seven (s : ByteArray) : (wordsI s).length ≤ min 7 (s.size + 1) := by
  have := Lib.splitB_length_le ⟨#[32]⟩ 0 (min 7 (s.size + 1) - 1) s
  unfold wordsI
  omega
theorem StepN.told {w2 : World} {k : Nat} {r : Option (List Sx × List Sm)} {e : Ending} {w' : World} (h : StepN w2 k r e w') : ∃ b, e = .returned (.bool b) := by
  cases r with
  | none => exact ⟨false, h.2⟩
  | some o => exact ⟨true, h.2.1⟩
set_option maxRecDepth 100000 in
set_option maxHeartbeats 4000000 in
theorem readLine_any (w2 W : World) (hL : Libs W) (hl2 : libTop ≤ w2.heap.size) (vs vm : Value) (ss : List Sp) (ms : List Sm) (k : Nat) (h : RdSt w2 W vs vm ss ms k) (hk : k ≤ 2000000) (s : ByteArray) (hs : s.size ≤ 1048576) :
    Calls Tryz.prog 35 #[.pointer (some ⟨w2.heap.size, 0, none⟩), .string s] W (StepN w2 (k + 1) (stepI (ss.map Sp.s, ms) s)) := by
  obtain ⟨most, hmost⟩ := hL.most
  obtain ⟨N, hN⟩ : ∃ q, min 7 (s.size + 1) = q := ⟨_, rfl⟩
  obtain ⟨ws, hws⟩ : ∃ q, wordsI s = q := ⟨_, rfl⟩
  obtain ⟨lw, hlw⟩ : ∃ q, ws.length = q := ⟨_, rfl⟩
  have h0 : 0 < lw := by rw [← hlw, ← hws]; exact wordsI_ne s
  have h7 : lw ≤ N := by rw [← hlw, ← hws, ← hN]; exact wordsI_seven s
  have hN7 : N ≤ 7 := by omega
  have hsp : Lib.splitB ⟨#[32]⟩ 0 (N - 1) s = ws := by rw [← hws]; unfold wordsI; rw [hN]
  obtain ⟨X, hX⟩ : ∃ q, W.alloc (.cells (Lib.cellsOf ws N) 9) = q := ⟨_, rfl⟩
  obtain ⟨g, hg⟩ : ∃ q, W.heap.size = q := ⟨_, rfl⟩
  have HSP : Hid (Calls Tryz.prog 63 #[.string s, .string ⟨#[32]⟩, .int .i64 7] W fun e w' => e = .returned (.slice (some ⟨g, 0, none⟩) lw N) ∧ w' = X) := by
    have := Tryz.strings_SplitN s ⟨#[32]⟩ 7 most W (by omega) hmost (by decide) (by decide) (by decide)
    rw [hN, hsp, hlw, hX, hg] at this
    exact this
  have hbX : Below W.heap.size W X := by rw [← hX]; exact (Below.refl _ _).alloc (Nat.le_refl _) _
  have hxs : Has X g 9 (Lib.cellsOf ws N) := by rw [← hX, ← hg]; exact Has.new _ _ _
  have hwat : WordsAt X (some ⟨g, 0, none⟩) ws := fun _ => ⟨g, 0, _, rfl, hxs, fun i t ht => by
    unfold Lib.cellsOf
    rw [Nat.zero_add, List.getElem?_toArray, List.getElem?_append_left (by rw [List.length_map]; exact (List.getElem?_eq_some_iff.1 ht).1), List.getElem?_map, ht]
    rfl⟩
  have hwsz : ∀ t ∈ ws, t.size ≤ 1048576 := fun t ht => by
    rw [← hws] at ht
    have := splitB_small _ _ _ _ _ ht
    omega
  obtain ⟨w0, hw0⟩ : ∃ t, ws[0]? = some t := ⟨_, List.getElem?_eq_getElem (by omega)⟩
  have c0 : X.cell? ⟨g, 0, none⟩ = some (.string w0) := by
    obtain ⟨g', off', cs', e1, e2, e3⟩ := hwat (by omega)
    injection e1 with e1
    injection e1 with e1 e4
    subst e1; subst e4
    exact (e2.cell _).trans (e3 0 w0 hw0)
  obtain ⟨a2, ha2⟩ : ∃ q : Option Addr, (if N = 1 then some (⟨g, 0, none⟩ : Addr) else (some (⟨g, 0, none⟩ : Addr)).map (·.add (1 * 1))) = q := ⟨_, rfl⟩
  have hwd : WordsAt X a2 (ws.drop 1) := by rw [← ha2]; exact hwat.drop (k := 1) (cap := N) (by omega)
  have ht : Tryz.prog.underlying 28 = some (.slice (Tryz.prog.elem 28)) := by kernel_rfl
  have hs1 : ∀ W' : World, (Instr.slice 28 (.slice (some ⟨g, 0, none⟩) lw N) (some (.int .i64 1)) none none).run Tryz.prog W' = .ok (.slice a2 (lw - 1) (N - 1)) W' := fun W' => by
    have hz : (sizeOf (Tryz.prog.elem 28)).run Tryz.prog W' = .ok 1 W' := by kernel_rfl
    have := run_slice_l W' 28 (some (⟨g, 0, none⟩ : Addr)) lw N ht .i64 1 (by omega) (by omega)
    rw [this, hz]
    simp only [Result.andThen, sliced]
    rw [← ha2]
    rfl
  have hSX := h.only hbX
  have hLX := hL.below hbX hL.lt
  have hdl : lw - 1 = (ws.drop 1).length := by rw [List.length_drop]; omega
  have hdsz : ∀ t ∈ ws.drop 1, t.size ≤ 1048576 := fun t ht => hwsz t (List.mem_of_mem_drop ht)
  have hst : stepI (ss.map Sp.s, ms) s = (if w0 = wSec then (secI (ws.drop 1)).map fun x => (ss.map Sp.s ++ [x], ms)
      else if w0 = wFix then (if ss.map Sp.s = [] then none else (fixI (ws.drop 1)).map fun f => ((ss.map Sp.s).dropLast ++ ((ss.map Sp.s).getLast?.toList.map fun x => { x with fixs := x.fixs ++ [f] }), ms))
      else if w0 = wSym then (symI (ws.drop 1)).map fun m => (ss.map Sp.s, ms ++ [m]) else none) := by
    unfold stepI
    rw [hws]
    have e1 : ws.getD 0 ⟨#[]⟩ = w0 := by rw [List.getD_eq_getElem?_getD, hw0]; rfl
    rw [e1, ← List.drop_one]
  have HB := hidden hSX.rol.ro.below
  have HST := hidden hst
  obtain ⟨r, hr⟩ : ∃ r, stepI (ss.map Sp.s, ms) s = r := ⟨_, rfl⟩
  rw [hr] at HST ⊢
  by_cases e1 : w0 = wSec
  · have HC := hidden (readSectionWords_any w2 X hLX hl2 vs vm ss ms k hSX hk a2 (lw - 1) (N - 1) (ws.drop 1) hdl (by omega) (by omega) hwd hdsz r (by rw [HST.out, if_pos e1]))
    subst e1
    clear h hL hmost hws hlw hsp hX hg hbX hxs hwat hwsz hw0 ha2 hwd ht hSX hLX hdl hdsz hst hr HST
    go_enter Tryz.func35, Tryz.ntmps35
    go_wp2_with fail
    refine HSP.out.mono ?_
    rintro e w1 ⟨rfl, rfl⟩
    clear HSP
    go_wp2_with fail
    refine HC.out.mono ?_
    rintro e w3 hn
    obtain ⟨b, rfl⟩ := hn.told
    have HN := hidden hn
    clear hn HC
    go_wp2_with fail
    go_ret
    exact HN.out
  have hb1 : (w0.toList == [115, 101, 99, 116, 105, 111, 110]) = false := by
    have h := str_ne e1
    rw [toList_data wSec] at h
    exact h
  by_cases e2 : w0 = wFix
  · have HC := hidden (readFixupWords_any w2 X hLX hl2 vs vm ss ms k hSX hk a2 (lw - 1) (N - 1) (ws.drop 1) hdl (by omega) hwd hdsz r (by rw [HST.out, if_neg e1, if_pos e2]))
    subst e2
    clear h hL hmost hws hlw hsp hX hg hbX hxs hwat hwsz hw0 ha2 hwd ht hSX hLX hdl hdsz hst hr HST
    go_enter Tryz.func35, Tryz.ntmps35
    go_wp2_with fail
    refine HSP.out.mono ?_
    rintro e w1 ⟨rfl, rfl⟩
    clear HSP
    go_wp2_with fail
    refine HC.out.mono ?_
    rintro e w3 hn
    obtain ⟨b, rfl⟩ := hn.told
    have HN := hidden hn
    clear hn HC
    go_wp2_with fail
    go_ret
    exact HN.out
  have hb2 : (w0.toList == [102, 105, 120, 117, 112]) = false := by
    have h := str_ne e2
    rw [toList_data wFix] at h
    exact h
  by_cases e3 : w0 = wSym
  · have HC := hidden (readSymbolWords_any w2 X hLX hl2 vs vm ss ms k hSX hk a2 (lw - 1) (N - 1) (ws.drop 1) hdl (by omega) (by omega) hwd hdsz)
    have hrr : r = (symI (ws.drop 1)).map fun m => (ss.map Sp.s, ms ++ [m]) := by rw [HST.out, if_neg e1, if_neg e2, if_pos e3]
    rw [← hrr] at HC
    subst e3
    clear hrr
    clear h hL hmost hws hlw hsp hX hg hbX hxs hwat hwsz hw0 ha2 hwd ht hSX hLX hdl hdsz hst hr HST
    go_enter Tryz.func35, Tryz.ntmps35
    go_wp2_with fail
    refine HSP.out.mono ?_
    rintro e w1 ⟨rfl, rfl⟩
    clear HSP
    go_wp2_with fail
    refine HC.out.mono ?_
    rintro e w3 hn
    obtain ⟨b, rfl⟩ := hn.told
    have HN := hidden hn
    clear hn HC
    go_wp2_with fail
    go_ret
    exact HN.out
  have hb3 : (w0.toList == [115, 121, 109, 98, 111, 108]) = false := by
    have h := str_ne e3
    rw [toList_data wSym] at h
    exact h
  have HR : Hid (r = none) := by show _ = _; rw [HST.out, if_neg e1, if_neg e2, if_neg e3]
  clear h hL hmost hws hlw hsp hX hg hbX hxs hwat hwsz hw0 ha2 hwd ht hSX hLX hdl hdsz hst hr HST
  go_enter Tryz.func35, Tryz.ntmps35
  go_wp2_with fail
  refine HSP.out.mono ?_
  rintro e w1 ⟨rfl, rfl⟩
  clear HSP
  go_wp2_with fail
  go_ret
  rw [HR.out]
  exact ⟨HB.out, rfl⟩
end Go.Proofs.YtpfombelhajmlaaGreatDoor
namespace Go.Proofs.YtpfombelhajmlaaGreatDoor
open Go.RowKit
set_option maxRecDepth 100000 in
theorem equal_lens (W : World) (a1 a2 : Option Addr) (n c m d : Nat) (h : n ≠ m) : Calls Tryz.prog 36 #[.slice a1 n c, .slice a2 m d] W fun e w' => e = .returned (.bool false) ∧ w' = W := by
  have hne : ¬ (n : Int) = (m : Int) := by omega
  go_enter Tryz.func36, Tryz.ntmps36
  go_wp2_with fail
  go_ret
  exact ⟨rfl, rfl⟩
theorem vals_row {W : World} {B : Nat} {a : Option Addr} {S : List ByteArray} (h : Vals W B a (S.map Value.string)) (hn : 0 < S.length) : ∃ b o, a = some ⟨b, o, none⟩ ∧ ∀ j, j < S.length → W.cell? ⟨b, o + j, none⟩ = some (.string (S.getD j ByteArray.empty)) := by
  obtain ⟨b, o, e, _, hc⟩ := h (by rw [List.length_map]; exact hn)
  refine ⟨b, o, e, fun j hj => hc j _ ?_⟩
  rw [List.getElem?_map, List.getD_eq_getElem?_getD, List.getElem?_eq_getElem hj]
  rfl
theorem equal_any (W : World) (A1 A2 : Nat) (a1 a2 : Option Addr) (c d : Nat) (xs ys : List ByteArray) (h1 : Vals W A1 a1 (xs.map Value.string)) (h2 : Vals W A2 a2 (ys.map Value.string)) (hx : xs.length ≤ 9223372036854775807) (hy : ys.length ≤ 9223372036854775807) :
    Calls Tryz.prog 36 #[.slice a1 xs.length c, .slice a2 ys.length d] W fun e w' => e = .returned (.bool (decide (xs = ys))) ∧ ∃ q, w' = W.drewN q := by
  by_cases hl : xs.length = ys.length
  · by_cases h0 : xs.length = 0
    · have e1 : xs = [] := List.eq_nil_of_length_eq_zero h0
      have e2 : ys = [] := List.eq_nil_of_length_eq_zero (by omega)
      subst e1; subst e2
      refine (Tryz.slices_Equal_string_empty a1 a2 c 0 d W (by omega)).mono ?_
      rintro e w' ⟨rfl, rfl⟩
      exact ⟨rfl, 0, rfl⟩
    · obtain ⟨b1, o1, rfl, k1⟩ := vals_row h1 (by omega)
      obtain ⟨b2, o2, rfl, k2⟩ := vals_row h2 (by omega)
      refine (Tryz.slices_Equal_string b1 o1 xs.length c b2 o2 ys.length d xs ys W (Nat.le_refl _) (Nat.le_refl _) hx hy k1 k2).mono ?_
      rintro e w' ⟨rfl, hq⟩
      rw [List.take_length, List.take_length]
      exact ⟨rfl, hq⟩
  · refine (equal_lens W a1 a2 xs.length c ys.length d hl).mono ?_
    rintro e w' ⟨rfl, rfl⟩
    have : xs ≠ ys := fun e => hl (by rw [e])
    rw [decide_eq_false this]
    exact ⟨rfl, 0, rfl⟩
theorem parseI_snoc {S : List ByteArray} {k : Nat} {s : ByteArray} {o : List Sx × List Sm} (h : parseI ([], []) (S.take k) = some o) (hs : S[k]? = some s) : parseI ([], []) (S.take (k + 1)) = stepI o s := by
  rw [List.take_add_one, hs, parseI_append, h]
  show parseI o [s] = _
  rw [parseI]
  cases stepI o s <;> rfl
theorem parseI_fail {S : List ByteArray} {k : Nat} {s : ByteArray} {o : List Sx × List Sm} (h : parseI ([], []) (S.take k) = some o) (hs : S[k]? = some s) (hn : stepI o s = none) : parseI ([], []) S = none := by
  obtain ⟨h1, h2⟩ := List.getElem?_eq_some_iff.1 hs
  have e : S = S.take k ++ s :: S.drop (k + 1) := by rw [← h2, List.getElem_cons_drop, List.take_append_drop]
  rw [e, parseI_append, h]
  show parseI o (s :: _) = none
  rw [parseI, hn]
  rfl
set_option maxRecDepth 100000 in
set_option maxHeartbeats 4000000 in
theorem readDump_any (w : World) (hL : Libs w) (B : Nat) (a : Option Addr) (n c : Nat) (S : List ByteArray) (hn : n = S.length) (h : Vals w B a (S.map Value.string)) (hB : B ≤ w.heap.size) (hnb : n ≤ 1048576) (hsz : ∀ s ∈ S, s.size ≤ 1048576) :
    Calls Tryz.prog 12 #[.slice a n c] w (ReadD w (S.map numsOf)) := by
  obtain ⟨w2, hw2⟩ : ∃ q, w.alloc (.cells #[.slice none 0 0, .slice none 0 0] 26) = q := ⟨_, rfl⟩
  obtain ⟨rb, hrb⟩ : ∃ q, w.heap.size = q := ⟨_, rfl⟩
  obtain ⟨w3, hw3⟩ : ∃ q, w2.alloc (.cells #[.slice none 0 0, .slice none 0 0] 26) = q := ⟨_, rfl⟩
  obtain ⟨ob, hob⟩ : ∃ q, w2.heap.size = q := ⟨_, rfl⟩
  have hb2 : Below w.heap.size w w2 := by rw [← hw2]; exact (Below.refl _ _).alloc (Nat.le_refl _) _
  have hres : Has w2 rb 26 #[.slice none 0 0, .slice none 0 0] := by rw [← hw2, ← hrb]; exact Has.new _ _ _
  have hst0 : RdSt w2 w3 (.slice none 0 0) (.slice none 0 0) [] [] 0 := ⟨⟨by rw [← hw3]; exact RO.new w2, LastOk.nil _⟩, Nat.le_refl _, Nat.le_refl _, (fun y hy => by cases hy), (fun y hy => by cases hy), (fun y hy => by cases hy)⟩
  have hl2 : libTop ≤ w2.heap.size := Nat.le_trans hL.lt hb2.size
  have hL2 := hL.below hb2 hL.lt
  have HLX := hidden (fun (W : World) (hW : Below w2.heap.size w2 W) => hL2.below hW hl2)
  have HVX := hidden (fun (W : World) (hW : Below w2.heap.size w2 W) => h.below ((hb2.trans (hW.mono hb2.size)).mono hB))
  have HRX := hidden (fun (W : World) (hW : Below w2.heap.size w2 W) => hres.below hW hres.lt)
  have HBX := hidden (fun (W : World) (hW : Below w2.heap.size w2 W) => hb2.trans (hW.mono hb2.size))
  have HST0 := hidden hst0
  have HN := hidden hn
  have HSZ := hidden hsz
  have HRD := hidden (rdI_rdD S)
  have HOB := hidden hob
  have hrlt : rb < ob := by rw [← hob]; exact hres.lt
  have hwrb : w.heap.size ≤ rb := by omega
  have HWB : Hid (w.heap.size ≤ w2.heap.size) := hb2.size
  clear hst0 hL hL2 h hn hsz hres hb2
  go_enter Tryz.func12, Tryz.ntmps12
  go_wp2_with fail
  clear hw2 hrb hw3 hob
  go_loopw [9] (fun i wr => ∃ (k : Nat) (vs vm : Value) (ss : List Sp) (ms : List Sm), i = .int .i64 k ∧ k ≤ n ∧ Hid (parseI ([], []) (S.take k) = some (ss.map Sp.s, ms)) ∧ Hid (RdSt w2 wr vs vm ss ms k)) (fun i _ => n - (intOf i).toNat)
  case atStart => exact ⟨0, _, _, [], [], rfl, Nat.zero_le _, (by show _ = _; rfl), HST0.out⟩
  case round =>
    obtain ⟨k, vs, vm, ss, ms, rfl, hk, hp, hst⟩ := hrel
    clear HST0
    have HBR := hidden hst.out.rol.ro.below
    by_cases hlt : k < n
    · have hi : (k : Int) < (n : Int) := by omega
      have hkl : k < S.length := by rw [← HN.out]; exact hlt
      obtain ⟨s, hs⟩ : ∃ s, S[k]? = some s := ⟨_, List.getElem?_eq_getElem hkl⟩
      obtain ⟨b, o, rfl, hc⟩ := vals_row (HVX.out wr HBR.out) (by omega)
      have c0 : wr.cell? ⟨b, o + k, none⟩ = some (.string s) := by rw [hc k hkl, List.getD_eq_getElem?_getD, hs]; rfl
      have HRL := hidden (readLine_any w2 wr (HLX.out wr HBR.out) hl2 vs vm ss ms k hst.out (by omega) s (HSZ.out s (List.mem_of_getElem? hs)))
      rw [HOB.out] at HRL
      have HS1 := hidden hs
      clear hc hs hkl hst
      go_wp2_with fail
      refine HRL.out.mono ?_
      rintro e w5 ⟨hb5, hsa⟩
      cases hq : stepI (ss.map Sp.s, ms) s with
      | none =>
        rw [hq] at hsa
        have he : e = .returned (.bool false) := hsa
        subst he
        have HF : Hid (rdD (S.map numsOf) = none) := by show _ = _; rw [← HRD.out]; unfold rdI; rw [parseI_fail hp.out HS1.out hq]
        have hres5 := HRX.out w5 hb5
        have r0 : w5.cell? ⟨rb, 0, none⟩ = some (.slice none 0 0) := hres5.cell 0
        have r1 : w5.cell? ⟨rb, 1, none⟩ = some (.slice none 0 0) := hres5.cell 1
        have f0 := hres5.free 0
        have f1 := hres5.free 1
        have HR5 := hidden hres5
        have HB5 := hidden (HBX.out w5 hb5)
        have HC : Hid (Has ((w5.setCell ⟨rb, 0, none⟩ (.slice none 0 0)).setCell ⟨rb, 1, none⟩ (.slice none 0 0)) rb 26 #[.slice none 0 0, .slice none 0 0]) := (HR5.out.put 0 _).put 1 _
        have HG : Hid (Below w.heap.size w ((w5.setCell ⟨rb, 0, none⟩ (.slice none 0 0)).setCell ⟨rb, 1, none⟩ (.slice none 0 0))) := (HB5.out.setCell (p := ⟨rb, 0, none⟩) hwrb _).setCell (p := ⟨rb, 1, none⟩) hwrb _
        clear hsa hq hp hb5 HRL c0 hres5
        go_wp2_with fail
        refine bodyPost_ret (results_cell_row3 rfl _ _ rb 26 #[.slice none 0 0, .slice none 0 0] (0, 0) _ rfl HC.out Tryz.underlying26 rfl (by kernel_rfl)) rfl ?_
        exact ⟨HG.out, .inl ⟨HF.out, rfl⟩⟩
      | some o =>
        rw [hq] at hsa
        obtain ⟨rfl, vs', vm', ss', ms', hst', e1, e2⟩ := hsa
        have HP : Hid (parseI ([], []) (S.take (k + 1)) = some (ss'.map Sp.s, ms')) := by
          show _ = _
          rw [parseI_snoc hp.out HS1.out, hq, e1, e2]
        have HST := hidden hst'
        clear hq hp hst' e1 e2 hb5 HRL c0
        go_wp2_with fail
        go_roundw
        case rel => exact ⟨k + 1, vs', vm', ss', ms', by go_num, by omega, HP, HST⟩
        case measure => simp [intOf]; omega
    · have hi : ¬ (k : Int) < (n : Int) := by omega
      have hp' := hp.out
      rw [List.take_of_length_le (by rw [← HN.out]; omega)] at hp'
      have HP := hidden hp'
      have hro := hst.out.rol.ro
      obtain ⟨a1, d1, hvs⟩ := own_shape hro.secs.row
      obtain ⟨a2, d2, hvm⟩ := own_shape hro.syms
      subst hvs
      subst hvm
      have HRO := hidden hro
      have HST := hidden hst.out
      have hk2 : ss.length ≤ 2000000 ∧ ms.length ≤ 2000000 := ⟨by have := hst.out.ns; omega, by have := hst.out.nm; omega⟩
      have HDO := hidden (wantDumpObject wr wr.heap.size a1 a2 d1 d2 ss ms (HLX.out wr HBR.out).tabs hro.secs.sects (syms_of_own hro.syms) (Nat.le_refl _) (by omega) (by omega) hst.out.fs hst.out.fm)
      obtain ⟨ns, hns⟩ : ∃ q, ss.length = q := ⟨_, rfl⟩
      obtain ⟨nm, hnm⟩ : ∃ q, ms.length = q := ⟨_, rfl⟩
      have hobj := hro.obj
      rw [HOB.out] at hobj
      have o0 : wr.cell? ⟨ob, 0, none⟩ = some (.slice a1 ns d1) := by rw [← hns]; exact hobj.cell 0
      have o1 : wr.cell? ⟨ob, 1, none⟩ = some (.slice a2 nm d2) := by rw [← hnm]; exact hobj.cell 1
      rw [hns, hnm] at HDO
      have HNS := hidden hns
      have HNM := hidden hnm
      clear hro hp hp' hst hobj hns hnm
      go_wp2_with fail
      refine HDO.out.mono ?_
      rintro e w5 ⟨hf, -⟩
      obtain ⟨b5, c5, rfl, hv5, hb5⟩ := hf.told
      have HB5 := hidden (HBR.out.trans (hb5.mono HBR.out.size))
      have HEQ := hidden (equal_any w5 w5.heap.size B b5 a c5 c (dumpX (ss.map Sp.s) ms) S hv5 (HVX.out w5 HB5.out) (by have := dumpX_short (ss.map Sp.s) ms; omega) (by rw [← HN.out]; omega))
      rw [← HN.out] at HEQ
      have HRO5 := hidden (HRO.out.only hb5)
      clear hf hv5 hb5 HDO o0 o1
      go_wp2_with fail
      refine HEQ.out.mono ?_
      rintro e w6 ⟨rfl, q, hq⟩
      have hdr : Below w5.heap.size w5 w6 := by rw [hq]; exact below_drewN (Below.refl _ _) q
      have HRO6 := hidden (HRO5.out.only hdr)
      have HB6 := HB5.out.trans (hdr.mono HB5.out.size)
      have hres6 := HRX.out w6 HB6
      have HR6 := hidden hres6
      have HBW6 := hidden (HBX.out w6 HB6)
      have hobj6 := HRO6.out.obj
      rw [HOB.out] at hobj6
      have o0 : w6.cell? ⟨ob, 0, none⟩ = some (.slice a1 ns d1) := by rw [← HNS.out]; exact hobj6.cell 0
      have o1 : w6.cell? ⟨ob, 1, none⟩ = some (.slice a2 nm d2) := by rw [← HNM.out]; exact hobj6.cell 1
      have r0 : w6.cell? ⟨rb, 0, none⟩ = some (.slice none 0 0) := hres6.cell 0
      have r1 : w6.cell? ⟨rb, 1, none⟩ = some (.slice none 0 0) := hres6.cell 1
      have f0 := hres6.free 0
      have f1 := hres6.free 1
      by_cases hd : dumpX (ss.map Sp.s) ms = S
      · have HF : Hid (rdD (S.map numsOf) = some (ss.map Sp.s, ms)) := by show _ = _; rw [← HRD.out]; unfold rdI; rw [HP.out]; exact if_pos hd
        have HC : Hid (Has ((w6.setCell ⟨rb, 0, none⟩ (.slice a1 ns d1)).setCell ⟨rb, 1, none⟩ (.slice a2 nm d2)) rb 26 #[.slice a1 ns d1, .slice a2 nm d2]) := (HR6.out.put 0 _).put 1 _
        have HG : Hid (Below w.heap.size w ((w6.setCell ⟨rb, 0, none⟩ (.slice a1 ns d1)).setCell ⟨rb, 1, none⟩ (.slice a2 nm d2))) := (HBW6.out.setCell (p := ⟨rb, 0, none⟩) hwrb _).setCell (p := ⟨rb, 1, none⟩) hwrb _
        have hg1 : w6.grownBy (w6.setCell ⟨rb, 0, none⟩ (.slice a1 ns d1)) (some rb) := only_put' 0 _
        have hg2 : (w6.setCell ⟨rb, 0, none⟩ (.slice a1 ns d1)).grownBy ((w6.setCell ⟨rb, 0, none⟩ (.slice a1 ns d1)).setCell ⟨rb, 1, none⟩ (.slice a2 nm d2)) (some rb) := only_put' 1 _
        have hgg := only_trans hg1 hg2
        have hse := HRO6.out.secs
        have hsy := HRO6.out.syms
        have HS7 : Hid (SR ((w6.setCell ⟨rb, 0, none⟩ (.slice a1 ns d1)).setCell ⟨rb, 1, none⟩ (.slice a2 nm d2)) w.heap.size (.slice a1 ns d1) ss) := by
          have := (hse.other HR6.out (by decide) (by decide) (by decide) hgg).lower (base' := w.heap.size) (by have := HWB.out; omega)
          rw [HNS.out] at this
          exact this
        have HY7 : Hid (((w6.setCell ⟨rb, 0, none⟩ (.slice a1 ns d1)).setCell ⟨rb, 1, none⟩ (.slice a2 nm d2)).ownsRow w.heap.size 58 4 (.slice a2 nm d2) ms.length (flatM ms)) := by
          have := row_lower (base' := w.heap.size) (hsy.kept hgg (row_apart hsy HR6.out (by decide))) (by have := HWB.out; omega)
          rw [HNM.out] at this ⊢
          exact this
        have hdd : decide (dumpX (ss.map Sp.s) ms = S) = true := decide_eq_true hd
        rw [hdd]
        clear hd hdd hse hsy hgg hg1 hg2 hq hdr hobj6 hres6 HEQ
        go_wp2_with fail
        refine bodyPost_ret (results_cell_row3 rfl _ _ rb 26 #[.slice a1 ns d1, .slice a2 nm d2] (0, 0) _ rfl HC.out Tryz.underlying26 rfl (by kernel_rfl)) rfl ?_
        refine ⟨HG.out, .inr ⟨ss, ms, a1, a2, d1, d2, HF.out, ?_, ?_, ?_⟩⟩
        · rw [HNS.out, HNM.out]; rfl
        · rw [HNS.out]; exact HS7.out
        · rw [HNM.out]; have := HY7.out; rw [HNM.out] at this; exact this
      · have HF : Hid (rdD (S.map numsOf) = none) := by show _ = _; rw [← HRD.out]; unfold rdI; rw [HP.out]; exact if_neg hd
        have HC : Hid (Has ((w6.setCell ⟨rb, 0, none⟩ (.slice none 0 0)).setCell ⟨rb, 1, none⟩ (.slice none 0 0)) rb 26 #[.slice none 0 0, .slice none 0 0]) := (HR6.out.put 0 _).put 1 _
        have HG : Hid (Below w.heap.size w ((w6.setCell ⟨rb, 0, none⟩ (.slice none 0 0)).setCell ⟨rb, 1, none⟩ (.slice none 0 0))) := (HBW6.out.setCell (p := ⟨rb, 0, none⟩) hwrb _).setCell (p := ⟨rb, 1, none⟩) hwrb _
        have hdd : decide (dumpX (ss.map Sp.s) ms = S) = false := decide_eq_false hd
        rw [hdd]
        clear hd hdd hq hdr hobj6 hres6 HEQ o0 o1
        go_wp2_with fail
        refine bodyPost_ret (results_cell_row3 rfl _ _ rb 26 #[.slice none 0 0, .slice none 0 0] (0, 0) _ rfl HC.out Tryz.underlying26 rfl (by kernel_rfl)) rfl ?_
        exact ⟨HG.out, .inl ⟨HF.out, rfl⟩⟩
end Go.Proofs.YtpfombelhajmlaaGreatDoor

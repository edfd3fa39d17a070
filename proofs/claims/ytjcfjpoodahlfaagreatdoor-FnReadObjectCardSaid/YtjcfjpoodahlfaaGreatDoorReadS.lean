import Derived.Test.YtjcfjpoodahlfaaGreatDoorRead7B
import Derived.Deep.CutBlock
import Derived.IntWalk
namespace Go.Proofs.YtjcfjpoodahlfaaGreatDoor
open Go.RowKit
set_option maxRecDepth 100000 in
set_option maxHeartbeats 4000000 in
theorem readObject'_any (w : World) (B : Nat) (a : Option Addr) (cap n : Nat) (l : List Int) (hn : n = l.length) (h : Ints w .u8 B a l) (hB : B ≤ w.heap.size) (hlen : n ≤ 9223372036854775000) (hcap : n ≤ cap) (hmax : cap ≤ 9223372036854775807) :
    Calls Tryz.prog 16 #[.slice a n cap] w (ReadS w l) := by
  have hb0 : Below w.heap.size w (w.alloc (.cells #[.slice none 0 0, .slice none 0 0] 26)) := (Below.refl _ _).alloc (Nat.le_refl _) _
  have hres : Has (w.alloc (.cells #[.slice none 0 0, .slice none 0 0] 26)) w.heap.size 26 #[.slice none 0 0, .slice none 0 0] := Has.new _ _ _
  have HG := hidden (getHeader'_any (w.alloc (.cells #[.slice none 0 0, .slice none 0 0] 26)) B a cap n l hn (h.below (hb0.mono hB)) (Nat.le_trans hB hb0.size) (by omega))
  obtain ⟨ok, hok⟩ : ∃ q, isHd l = q := ⟨_, rfl⟩
  obtain ⟨g, hg⟩ : ∃ q, getHd l = q := ⟨_, rfl⟩
  rw [hok, hg] at HG
  have HNL := hidden hn
  have HI := hidden (fun (W : World) (hW : Below w.heap.size w W) => h.below (hW.mono hB))
  have HOK := hidden hok
  have HGD := hidden hg
  have HBW := hidden hB
  have HNO : Hid (ok = false → g = noHd) := fun e => by rw [← hg]; unfold getHd; rw [hok, e]; rfl
  have HRD0 : Hid (ok = false → rd l = none) := fun e => by rw [e] at hok; unfold rd parse; rw [hok]; rfl
  have HHV : Hid (ok = true → hdOk g = true) := fun e => by
    rw [e] at hok
    have hp := (isHd_told hok).2
    rw [hg] at hp
    rcases hv : hdOk g with _ | _
    · have hz : (putHd g).length = 0 := by unfold putHd; rw [hv]; rfl
      have hp2 := congrArg List.length hp
      have h10 := (isHd_told hok).1
      rw [hz, List.length_take] at hp2
      exact absurd hp2 (by omega)
    · rfl
  obtain ⟨S, M, F, K⟩ := g
  unfold Hd.agg at HG
  have hHW := h.1
  clear hok hg h hn hB
  go_enter Tryz.func16, Tryz.ntmps16
  go_wp2_with fail
  refine HG.out.mono ?_
  clear HG
  rintro e w1 ⟨rfl, hb1⟩
  have hB1 := hb0.trans (hb1.mono hb0.size)
  have hs1 : w.heap.size < w1.heap.size := Nat.lt_of_lt_of_le (by simp) hb1.size
  have hr1 := hres.below hb1 (by simp)
  clear hb0 hb1 hres
  go_upto_region 2 with fail
  have hr2 := hr1.alloc (.cells #[.int .i64 S, .int .i64 M, .int .i64 F, .int .i64 K] 60)
  have hh2 : Has (w1.alloc (.cells #[.int .i64 S, .int .i64 M, .int .i64 F, .int .i64 K] 60)) w1.heap.size 60 #[.int .i64 S, .int .i64 M, .int .i64 F, .int .i64 K] := Has.new _ _ _
  have hB2 : Below w.heap.size w (w1.alloc (.cells #[.int .i64 S, .int .i64 M, .int .i64 F, .int .i64 K] 60)) := hB1.alloc hB1.size _
  have hsz : (w1.alloc (.cells #[.int .i64 S, .int .i64 M, .int .i64 F, .int .i64 K] 60)).heap.size = w1.heap.size + 1 := by simp
  obtain ⟨w2, hw2⟩ : ∃ q, w1.alloc (.cells #[.int .i64 S, .int .i64 M, .int .i64 F, .int .i64 K] 60) = q := ⟨_, rfl⟩
  rw [hw2] at hr2 hh2 hB2 hsz
  try rw [hw2]
  clear hw2 hr1 hB1
  obtain ⟨gh, hgh⟩ : ∃ q, w1.heap.size = q := ⟨_, rfl⟩
  rw [hgh] at hh2 hsz hs1
  try rw [hgh]
  clear hgh
  have c0 : w2.cell? ⟨w.heap.size, 0, none⟩ = some (.slice none 0 0) := hr2.cell 0
  have c1 : w2.cell? ⟨w.heap.size, 1, none⟩ = some (.slice none 0 0) := hr2.cell 1
  have f0 := hr2.free 0
  have f1 := hr2.free 1
  have h0 : w2.cell? ⟨gh, 0, none⟩ = some (.int .i64 S) := hh2.cell 0
  have h1 : w2.cell? ⟨gh, 1, none⟩ = some (.int .i64 M) := hh2.cell 1
  have h2 : w2.cell? ⟨gh, 2, none⟩ = some (.int .i64 F) := hh2.cell 2
  have h3 : w2.cell? ⟨gh, 3, none⟩ = some (.int .i64 K) := hh2.cell 3
  have HR2 := hidden hr2
  have HH2 := hidden hh2
  have HB2 := hidden hB2
  clear hr2 hh2 hB2
  rcases ok with _ | _
  · have he := HNO.out rfl
    injection he with e1 e2 e3 e4
    subst e1 e2 e3 e4
    go_wp2_with fail
    have HFN : Has ((w2.setCell ⟨w.heap.size, 0, none⟩ (.slice none 0 0)).setCell ⟨w.heap.size, 1, none⟩ (.slice none 0 0)) w.heap.size 26 #[.slice none 0 0, .slice none 0 0] := (HR2.out.put 0 _).put 1 _
    have HGW : w2.grownBy ((w2.setCell ⟨w.heap.size, 0, none⟩ (.slice none 0 0)).setCell ⟨w.heap.size, 1, none⟩ (.slice none 0 0)) (some w.heap.size) := only_trans (only_put' (g := w.heap.size) 0 _) (only_put' 1 _)
    refine bodyPost_ret (results_cell_row3h rfl _ _ w.heap.size 26 #[.slice none 0 0, .slice none 0 0] (0, 0) _ rfl HFN Tryz.underlying26 rfl (by kernel_rfl)) rfl ?_
    exact ⟨HB2.out.grown HGW HB2.out.size (by intro q hq; injection hq with hq; omega), .inl ⟨(by first | exact HRD0.out rfl | exact HRD0.out trivial), rfl⟩⟩
  obtain ⟨⟨hS0, hS8⟩, ⟨hM0, hM12⟩, ⟨hF0, hF48⟩, hK1, hK400⟩ : (0 ≤ S ∧ S ≤ 8) ∧ (0 ≤ M ∧ M ≤ 12) ∧ (0 ≤ F ∧ F ≤ 48) ∧ 1 ≤ K ∧ K ≤ 400 := hdOk_iff.1 (HHV.out rfl)
  obtain ⟨NM, hNM⟩ : ∃ q, 10 + 6 * S + 6 * M + 5 * F = q := ⟨_, rfl⟩
  have hNM0 : 10 ≤ NM := by omega
  have hNM1 : NM ≤ 370 := by omega
  have v5 : IntKind.i64.wrap (10 + 6 * S + 6 * M + 5 * F) = NM := by rw [hNM]; exact IntWalk.i64_in _ (by omega)
  have HNM := hidden hNM
  have HPAR : Hid (parse l = if (n : Int) < NM + K then none else (rdSecs l ((l.drop NM.toNat).take K.toNat) NM S.toNat 10 (NM + K) (10 + 6 * S + 6 * M)).map fun ss => (ss, rdSyms l ((l.drop NM.toNat).take K.toNat) M.toNat (10 + 6 * S))) := by
    show _ = _
    unfold parse
    rw [HOK.out, HGD.out]
    simp only [Bool.true_eq_false, false_or]
    rw [hNM, ← HNL.out]
  clear hNM HNO HRD0 HHV
  by_cases hbig : (n : Int) < NM + K
  · have HRN : Hid (rd l = none) := by show _ = _; unfold rd; rw [HPAR.out, if_pos hbig]
    clear HPAR
    go_wp2_with fail
    have HFN : Has ((w2.setCell ⟨w.heap.size, 0, none⟩ (.slice none 0 0)).setCell ⟨w.heap.size, 1, none⟩ (.slice none 0 0)) w.heap.size 26 #[.slice none 0 0, .slice none 0 0] := (HR2.out.put 0 _).put 1 _
    have HGW : w2.grownBy ((w2.setCell ⟨w.heap.size, 0, none⟩ (.slice none 0 0)).setCell ⟨w.heap.size, 1, none⟩ (.slice none 0 0)) (some w.heap.size) := only_trans (only_put' (g := w.heap.size) 0 _) (only_put' 1 _)
    refine bodyPost_ret (results_cell_row3h rfl _ _ w.heap.size 26 #[.slice none 0 0, .slice none 0 0] (0, 0) _ rfl HFN Tryz.underlying26 rfl (by kernel_rfl)) rfl ?_
    exact ⟨HB2.out.grown HGW HB2.out.size (by intro q hq; injection hq with hq; omega), .inl ⟨HRN.out, rfl⟩⟩
  have hlo : NM ≤ (cap : Int) := by omega
  have hhi : NM + K ≤ (cap : Int) := by omega
  obtain ⟨b, off, rfl, hbB, hcs⟩ := (HI.out w (Below.refl _ _)).2 (by have := HNL.out; omega)
  have HPAR2 : Hid (parse l = (rdSecs l ((l.drop NM.toNat).take K.toNat) NM S.toNat 10 (NM + K) (10 + 6 * S + 6 * M)).map fun ss => (ss, rdSyms l ((l.drop NM.toNat).take K.toNat) M.toNat (10 + 6 * S))) := by
    show _ = _; rw [HPAR.out, if_neg hbig]
  obtain ⟨N, hN⟩ := Int.eq_ofNat_of_zero_le (show 0 ≤ NM by omega)
  obtain ⟨k, hk⟩ := Int.eq_ofNat_of_zero_le (show 0 ≤ K by omega)
  obtain ⟨Sn, hSn⟩ := Int.eq_ofNat_of_zero_le hS0
  obtain ⟨Mn, hMn⟩ := Int.eq_ofNat_of_zero_le hM0
  subst hN hk hSn hMn
  obtain ⟨TB, hTB⟩ : ∃ q, (l.drop N).take k = q := ⟨_, rfl⟩
  have hkn : TB.length = k := by rw [← hTB, List.length_take, List.length_drop, ← HNL.out]; omega
  have HKN := hidden hkn
  have HPAR3 : Hid (parse l = (rdSecs l TB N Sn 10 (((N : Int)) + (k : Int)) (10 + 6 * (Sn : Int) + 6 * (Mn : Int))).map fun ss => (ss, rdSyms l TB Mn (10 + 6 * (Sn : Int)))) := by
    show _ = _
    have := HPAR2.out
    simp only [Int.toNat_natCast] at this
    rw [hTB] at this
    exact this
  have HTI : Hid (∀ W, Below w.heap.size w W → Ints W .u8 B (some ⟨b, off + N, none⟩) TB) := fun W hW => by rw [← hTB]; exact ints_sub (HI.out W hW) N k
  have HGN : Hid (∀ W, Below w.heap.size w W → ∀ i : Int, Calls Tryz.prog 48 #[.slice (some ⟨b, off, none⟩) n cap, .int .i64 i, .int .i64 2] W fun e w' => e = .returned (.int .i64 (by2 l i)) ∧ W = w') := fun W hW i => by
    have := getNumber'_any W B (some ⟨b, off, none⟩) cap l (HI.out W hW) (by have := HNL.out; omega) i 2
    rwa [← HNL.out] at this
  have HB7 : Hid (∀ W, Below w.heap.size w W → ∀ i : Int, Calls Tryz.prog 49 #[.slice (some ⟨b, off, none⟩) n cap, .int .i64 i] W fun e w' => e = .returned (.int .i64 (by1 l i)) ∧ W = w') := fun W hW i => l7Byte_any W B (some ⟨b, off, none⟩) cap n l HNL.out (HI.out W hW) (by omega) i
  have HNA : Hid (∀ W, Below w.heap.size w W → ∀ i : Int, Calls Tryz.prog 47 #[.slice (some ⟨b, off + N, none⟩) k (cap - N), .int .i64 i] W fun e w' => (∃ bb, e = .returned (.tuple #[.string (nameOf TB i), .bool bb])) ∧ W = w') := fun W hW i => by
    have := nameAt'_any W B (some ⟨b, off + N, none⟩) (cap - N) TB (HTI.out W hW) (by rw [HKN.out]; omega) (by omega) i
    rw [HKN.out] at this
    refine this.mono ?_
    rintro e w' ⟨he, hw⟩
    obtain ⟨bb, hb⟩ := nameOf_text TB i
    exact ⟨⟨bb, by rw [he, hb]⟩, hw⟩
  have HWF := hidden hHW
  have HNS : Hid (∀ i, (nameOf TB i).size ≤ 400) := fun i => nameOf_size TB i (by rw [HKN.out]; omega)
  have hbw : b < w.heap.size := Nat.lt_of_lt_of_le hbB HBW.out
  have HRO0 : Hid (RO w2 (w2.alloc (.cells #[.slice none 0 0, .slice none 0 0] 26)) (.slice none 0 0) (.slice none 0 0) [] []) := RO.new w2
  have hn9 : (n : Int) ≤ 9223372036854775000 := by omega
  have hfx0 : 10 + 6 * (Sn : Int) + 6 * (Mn : Int) ≤ (N : Int) := by have := HNM.out; omega
  clear HPAR HPAR2 hcs c0 c1 f0 f1 hkn hTB HTI hHW hbB
  go_wp2_with fail
  clear h0 h1 h2 h3 hlo hhi v5
  have v1 : IntKind.i64.wrap (6 * (Sn : Int)) = 6 * (Sn : Int) := IntWalk.i64_in _ (by omega)
  obtain ⟨i0, hi0, hz0, hz1, hz2⟩ := info_parts Tryz.info_section
  obtain ⟨i1, hi1, hy0, hy1, hy2⟩ := info_parts Tryz.info_symbol
  obtain ⟨i2, hi2, hx0, hx1, hx2⟩ := info_parts Tryz.info_fixup
  have HOW : Hid (∀ W, Below w2.heap.size w2 W → Below w.heap.size w W) := fun W hW => HB2.out.trans (hW.mono HB2.out.size)
  have HHD : Hid (∀ W, Below w2.heap.size w2 W → Has W gh 60 #[.int .i64 Sn, .int .i64 Mn, .int .i64 F, .int .i64 k]) := fun W hW => HH2.out.below hW (by omega)
  go_loopw [8, 9, 11] (fun u v i wr => ∃ (j at_ fx : Nat) (sa : Option Addr) (sc : Nat) (ss : List Sp), u = .int .i64 at_ ∧ v = .int .i64 fx ∧ i = .int .i64 j ∧ j ≤ Sn ∧ at_ ≤ n ∧ fx ≤ N ∧ Hid (ss.length = j) ∧ Hid (RO w2 wr (.slice sa ss.length sc) (.slice none 0 0) ss []) ∧
    Hid (rdSecs l TB N Sn 10 ((N : Int) + (k : Int)) (10 + 6 * (Sn : Int) + 6 * (Mn : Int)) = (rdSecs l TB N (Sn - j) (10 + 6 * (j : Int)) at_ fx).map fun r => ss.map Sp.s ++ r) ∧ Hid (∀ y ∈ ss, y.s.lens)) (fun _ _ i _ => Sn - (intOf i).toNat)
  case atStart =>
    refine ⟨0, N + k, 10 + 6 * Sn + 6 * Mn, none, 0, [], by go_num, by go_num, rfl, Nat.zero_le _, by omega, by omega, hidden rfl, HRO0, hidden ?_, hidden (fun y hy => by cases hy)⟩
    show _ = _
    simp
  case round =>
    obtain ⟨j, at_, fx, sa, sc, ss, rfl, rfl, rfl, hj, hat, hfx, hsl, hro, hrec, hlens⟩ := hrel
    obtain ⟨wo, rfl⟩ : ∃ q, q = wr := ⟨_, rfl⟩
    clear HRO0
    have h0 : wo.cell? ⟨gh, 0, none⟩ = some (.int .i64 Sn) := (HHD.out wo hro.out.below).cell 0
    have hbw1 := HOW.out wo hro.out.below
    by_cases hlt : j < Sn
    · have hi : (j : Int) < (Sn : Int) := by omega
      have hG1 := hidden (HGN.out wo hbw1 (10 + 6 * (j : Int)))
      have hN1 := hidden (HNA.out wo hbw1 (by2 l (10 + 6 * (j : Int))))
      have hb2 := hidden (HB7.out wo hbw1 (10 + 6 * (j : Int) + 2))
      have hb3 := hidden (HB7.out wo hbw1 (10 + 6 * (j : Int) + 3))
      obtain ⟨nm, hnm⟩ : ∃ q, nameOf TB (by2 l (10 + 6 * (j : Int))) = q := ⟨_, rfl⟩
      obtain ⟨kd, hkd⟩ : ∃ q, by1 l (10 + 6 * (j : Int) + 2) = q := ⟨_, rfl⟩
      obtain ⟨al, hal⟩ : ∃ q, by1 l (10 + 6 * (j : Int) + 3) = q := ⟨_, rfl⟩
      obtain ⟨sz, hsz'⟩ : ∃ q, by1 l (10 + 6 * (j : Int) + 4) = q := ⟨_, rfl⟩
      obtain ⟨J, hJ⟩ : ∃ q, by1 l (10 + 6 * (j : Int) + 5) = q := ⟨_, rfl⟩
      have hsz0 : 0 ≤ sz := by rw [← hsz']; exact by1_nonneg _ _
      have hsz1 : sz ≤ 255 := by rw [← hsz']; exact by1_le HWF.out _
      have hJ0 : 0 ≤ J := by rw [← hJ]; exact by1_nonneg _ _
      have hJ1 : J ≤ 255 := by rw [← hJ]; exact by1_le HWF.out _
      have hnms : nm.size ≤ 400 := by rw [← hnm]; exact HNS.out _
      rw [hnm] at hN1
      rw [hkd] at hb2
      rw [hal] at hb3
      have HN_ := hidden hnm
      have HK_ := hidden hkd
      have HA_ := hidden hal
      have HS_ := hidden hsz'
      have HJ_ := hidden hJ
      clear hnm hkd hal hsz' hJ hbw1
      go_wp2_with fail
      refine hG1.out.mono ?_
      clear hG1
      rintro e _ ⟨rfl, rfl⟩
      go_wp2_with fail
      refine hN1.out.mono ?_
      clear hN1
      rintro e _ ⟨⟨bb, rfl⟩, rfl⟩
      go_wp2_with fail
      refine hb2.out.mono ?_
      clear hb2
      rintro e _ ⟨rfl, rfl⟩
      go_wp2_with fail
      refine hb3.out.mono ?_
      clear hb3
      rintro e _ ⟨rfl, rfl⟩
      go_upto_region 15 with fail
      have hrs0 := RS.new wo nm kd al
      obtain ⟨W1, hW1⟩ : ∃ q, wo.alloc (.cells #[.string nm, .int .i64 kd, .int .i64 al, .slice none 0 0, .int .i64 0, .slice none 0 0] 48) = q := ⟨_, rfl⟩
      rw [hW1] at hrs0
      try rw [hW1]
      clear hW1
      obtain ⟨gs, hgs⟩ : ∃ q, wo.heap.size = q := ⟨_, rfl⟩
      have HGS := hidden hgs
      have HRW : Hid (∀ W, Below wo.heap.size wo W → Below w.heap.size w W) := fun W hW => HOW.out W (hro.out.below.trans (hW.mono hro.out.below.size))
      have hbW1 := HRW.out W1 hrs0.below
      have hb4 := hidden (HB7.out W1 hbW1 (10 + 6 * (j : Int) + 4))
      rw [HS_.out] at hb4
      have p1 : W1.cell? ⟨gs, 1, none⟩ = some (.int .i64 kd) := by rw [← hgs]; exact hrs0.sec.cell 1
      have p4 : W1.cell? ⟨gs, 4, none⟩ = some (.int .i64 0) := by rw [← hgs]; exact hrs0.sec.cell 4
      have e4 : W1.frozen? ⟨gs, 4, none⟩ = false := by rw [← hgs]; exact hrs0.sec.free 4
      obtain ⟨FS, hFS⟩ : ∃ q, rdFixs l N J.toNat (fx : Int) = q := ⟨_, rfl⟩
      have HFS := hidden hFS
      have HRS0 := hidden hrs0
      have HBW1 := hidden hbW1
      try rw [hgs]
      clear hFS hrs0 hbW1 hgs
      go_wp2_with fail
      refine hb4.out.mono ?_
      clear hb4
      rintro e _ ⟨rfl, rfl⟩
      go_upto_if 104 with fail
      go_cut [8] from 102 to 125 (fun v wx => ∃ (at2 : Nat) (sz2 : Int) (v1 : Value) (bs : List Int), v = .int .i64 at2 ∧ at2 ≤ n ∧ bs.length ≤ 255 ∧ Hid (∀ x ∈ bs, (Lit.int .u8 x).wf = true) ∧ Hid (RS wo wx nm kd al sz2 v1 (.slice none 0 0) bs []) ∧
        Hid (rdSecs l TB N (Sn - j) (10 + 6 * (j : Int)) at_ fx = (rdSecs l TB N (Sn - (j + 1)) (10 + 6 * ((j + 1 : Nat) : Int)) at2 ((fx : Int) + 5 * (FS.length : Int))).map fun r => ⟨nm, kd, al, bs, sz2, FS⟩ :: r))
      case first =>
        by_cases hk3 : kd = 3
        · have hk3' : (kd == 3) = true := by simp [hk3]
          have HEQ : Hid (rdSecs l TB N (Sn - j) (10 + 6 * (j : Int)) at_ fx = (rdSecs l TB N (Sn - (j + 1)) (10 + 6 * ((j + 1 : Nat) : Int)) at_ ((fx : Int) + 5 * (FS.length : Int))).map fun r => ⟨nm, kd, al, [], sz, FS⟩ :: r) := by
            show _ = _
            rw [show Sn - j = (Sn - (j + 1)) + 1 by omega, rdSecs, HK_.out, if_pos hk3, HJ_.out, HFS.out, HN_.out, HA_.out, HS_.out, show 10 + 6 * (j : Int) + 6 = 10 + 6 * ((j + 1 : Nat) : Int) by omega]
          clear hk3
          go_wp2_with fail
          go_meet
          exact ⟨at_, sz, _, [], rfl, hat, by simp, hidden (by simp), hidden (by rw [← HGS.out]; exact HRS0.out.size sz), HEQ⟩
        have hk3' : (kd == 3) = false := by simp [hk3]
        have s1 : IntKind.i64.wrap ((n : Int) - (at_ : Int)) = (n : Int) - (at_ : Int) := IntWalk.i64_in _ (by omega)
        by_cases hbig2 : (n : Int) - (at_ : Int) < sz
        · have HRN : Hid (rd l = none) := by
            show _ = _
            have e1 : rdSecs l TB N (Sn - j) (10 + 6 * (j : Int)) at_ fx = none := by
              rw [show Sn - j = (Sn - (j + 1)) + 1 by omega, rdSecs, HK_.out, if_neg hk3, HS_.out, if_pos (by have := HNL.out; omega)]
            unfold rd
            rw [HPAR3.out, hrec.out, e1]
            rfl
          have hrw := HR2.out.below (hro.out.below.trans (HRS0.out.below.mono hro.out.below.size)) (by omega)
          have c0 : W1.cell? ⟨w.heap.size, 0, none⟩ = some (.slice none 0 0) := hrw.cell 0
          have c1 : W1.cell? ⟨w.heap.size, 1, none⟩ = some (.slice none 0 0) := hrw.cell 1
          have f0 := hrw.free 0
          have f1 := hrw.free 1
          have HRW2 := hidden hrw
          clear hrw hk3
          go_wp2_with fail
          have HFN : Has ((W1.setCell ⟨w.heap.size, 0, none⟩ (.slice none 0 0)).setCell ⟨w.heap.size, 1, none⟩ (.slice none 0 0)) w.heap.size 26 #[.slice none 0 0, .slice none 0 0] := (HRW2.out.put 0 _).put 1 _
          have HGW : W1.grownBy ((W1.setCell ⟨w.heap.size, 0, none⟩ (.slice none 0 0)).setCell ⟨w.heap.size, 1, none⟩ (.slice none 0 0)) (some w.heap.size) := only_trans (only_put' (g := w.heap.size) 0 _) (only_put' 1 _)
          refine bodyPost_ret (results_cell_row3h rfl _ _ w.heap.size 26 #[.slice none 0 0, .slice none 0 0] (0, 0) _ rfl HFN Tryz.underlying26 rfl (by kernel_rfl)) rfl ?_
          exact ⟨HBW1.out.grown HGW HBW1.out.size (by intro q hq; injection hq with hq; omega), .inl ⟨HRN.out, rfl⟩⟩
        · obtain ⟨zn, hzn⟩ := Int.eq_ofNat_of_zero_le hsz0
          subst hzn
          have HEQ : Hid (rdSecs l TB N (Sn - j) (10 + 6 * (j : Int)) at_ fx = (rdSecs l TB N (Sn - (j + 1)) (10 + 6 * ((j + 1 : Nat) : Int)) ((at_ + zn : Nat) : Int) ((fx : Int) + 5 * (FS.length : Int))).map fun r => ⟨nm, kd, al, (l.drop at_).take zn, 0, FS⟩ :: r) := by
            show _ = _
            rw [show Sn - j = (Sn - (j + 1)) + 1 by omega, rdSecs, HK_.out, if_neg hk3, HS_.out, if_neg (by have := HNL.out; omega), HJ_.out, HFS.out, HN_.out, HA_.out, show 10 + 6 * (j : Int) + 6 = 10 + 6 * ((j + 1 : Nat) : Int) by omega, Int.toNat_natCast, Int.toNat_natCast, show ((at_ : Int) + (zn : Int)) = ((at_ + zn : Nat) : Int) by omega]
          have hbl : ((l.drop at_).take zn).length = zn := by rw [List.length_take, List.length_drop, ← HNL.out]; omega
          have HBL := hidden hbl
          have HBWF : Hid (∀ x ∈ (l.drop at_).take zn, (Lit.int .u8 x).wf = true) := fun x hx => HWF.out x (List.mem_of_mem_drop (List.mem_of_mem_take hx))
          obtain ⟨bs, hbs⟩ : ∃ q, (l.drop at_).take zn = q := ⟨_, rfl⟩
          rw [hbs] at HEQ HBL HBWF
          have hlo2 : (at_ : Int) ≤ (cap : Int) := by omega
          have hhi2 : (at_ : Int) + (zn : Int) ≤ (cap : Int) := by omega
          have HOWN : Hid (RowI (W1.alloc (.cells #[] 5)) wo.heap.size (.slice (some ⟨W1.heap.size, 0, none⟩) 0 0) 0 []) := World.ownsRow_lit (base := wo.heap.size) (e := 5) (size := 1) W1 #[] 0 HRS0.out.below.size (by unfold maxLen; omega) rfl
          have hst : wo.heap.size ≤ (W1.alloc (.cells #[] 5)).heap.size := by have := HRS0.out.below.size; simp; omega
          by_cases hce : at_ < cap
          · have HIB : Hid (Ints (W1.alloc (.cells #[] 5)) .u8 B (some ⟨b, off + at_, none⟩) bs) := by rw [← hbs]; exact ints_sub (HI.out _ (HBW1.out.alloc HBW1.out.size _)) at_ zn
            have hce1 : ¬ cap = at_ := by omega
            have hce2 : 0 < cap - at_ := by omega
            clear hk3 hbl hbs
            go_wp2_with (at_builtin; refine wpList_append_ints _ rfl _ _ rfl wo.heap.size _ 0 [] rfl HOWN.out (some ⟨b, off + at_, none⟩) (at_ + zn - at_) (cap - at_) B bs (by rw [Nat.add_sub_cancel_left]; exact HBL.out.symm) rfl HIB.out (by omega) hst ?_)
            intro v' w' hrow0 hgrow
            have hrow : RowI w' wo.heap.size v' zn bs := by simpa using hrow0
            clear hrow0
            obtain ⟨va, vc, rfl⟩ := own_shape hrow
            have hg0 : W1.grownBy w' none := ⟨hgrow.os, hgrow.tape, hgrow.output, by have := hgrow.size; simp at this; omega, fun i hi _ => by
              have h1 := hgrow.block i (by simp; omega) (by simp [Value.ownBlock]; omega)
              exact h1.trans (Below.heap_alloc W1 _ i hi)⟩
            have hrs' := HRS0.out.kept hg0
            have hrow' : w'.ownsRow wo.heap.size 5 1 (.slice va zn vc) bs.length (bs.map (Value.int .u8)) := by rw [HBL.out]; exact hrow
            have HFIN := hidden (HRS0.out.bytes hg0 hrow')
            have p3 : w'.cell? ⟨gs, 3, none⟩ = some (.slice none 0 0) := by rw [← HGS.out]; exact hrs'.sec.cell 3
            have e3 : w'.frozen? ⟨gs, 3, none⟩ = false := by rw [← HGS.out]; exact hrs'.sec.free 3
            clear hrow hgrow hg0 hrs' hrow' HIB HOWN hst
            go_wp2_with fail
            go_meet
            exact ⟨at_ + zn, 0, _, bs, by go_num, by omega, by have := HBL.out; omega, HBWF, hidden (by rw [← HGS.out]; exact HFIN.out), HEQ⟩
          · obtain rfl : zn = 0 := by omega
            have hbs0 : bs = [] := List.eq_nil_of_length_eq_zero HBL.out
            have HIB : Hid (Ints (W1.alloc (.cells #[] 5)) .u8 B (some ⟨b, off, none⟩) bs) := by rw [hbs0]; exact ⟨by simp, by simp⟩
            obtain rfl : cap = at_ := by omega
            clear hk3 hbl hbs hbs0
            go_wp2_with (at_builtin; refine wpList_append_ints _ rfl _ _ rfl wo.heap.size _ 0 [] rfl HOWN.out (some ⟨b, off, none⟩) 0 0 B bs HBL.out.symm rfl HIB.out (by omega) hst ?_)
            intro v' w' hrow0 hgrow
            have hrow : RowI w' wo.heap.size v' 0 bs := by simpa using hrow0
            clear hrow0
            obtain ⟨va, vc, rfl⟩ := own_shape hrow
            have hg0 : W1.grownBy w' none := ⟨hgrow.os, hgrow.tape, hgrow.output, by have := hgrow.size; simp at this; omega, fun i hi _ => by
              have h1 := hgrow.block i (by simp; omega) (by simp [Value.ownBlock]; omega)
              exact h1.trans (Below.heap_alloc W1 _ i hi)⟩
            have hrs' := HRS0.out.kept hg0
            have hrow' : w'.ownsRow wo.heap.size 5 1 (.slice va 0 vc) bs.length (bs.map (Value.int .u8)) := by rw [HBL.out]; exact hrow
            have HFIN := hidden (HRS0.out.bytes hg0 hrow')
            have p3 : w'.cell? ⟨gs, 3, none⟩ = some (.slice none 0 0) := by rw [← HGS.out]; exact hrs'.sec.cell 3
            have e3 : w'.frozen? ⟨gs, 3, none⟩ = false := by rw [← HGS.out]; exact hrs'.sec.free 3
            clear hrow hgrow hg0 hrs' hrow' HIB HOWN hst
            go_wp2_with fail
            go_meet
            exact ⟨cap, 0, _, bs, by go_num, by omega, by have := HBL.out; omega, HBWF, hidden (by rw [← HGS.out]; exact HFIN.out), HEQ⟩
      case rest =>
        obtain ⟨at2, sz2, v1, bs, rfl, hat2, hbs255, hbwf, hrs1, hstep⟩ := hcut
        obtain ⟨a1, c1, rfl⟩ := own_shape hrs1.out.own1
        obtain ⟨Jn, hJn⟩ := Int.eq_ofNat_of_zero_le hJ0
        subst hJn
        have hb5 := hidden (HB7.out wc (HRW.out wc hrs1.out.below) (10 + 6 * (j : Int) + 5))
        rw [HJ_.out] at hb5
        have HFS2 : Hid (rdFixs l N Jn fx = FS) := by have := HFS.out; rwa [Int.toNat_natCast] at this
        clear HRS0 HBW1 HFS p1 p4 e4
        go_wp2_with fail
        refine hb5.out.mono ?_
        clear hb5
        rintro e _ ⟨rfl, rfl⟩
        go_wp2_with fail
        go_loopw [9, 17] (fun v i wr => ∃ (fy q : Nat) (a2 : Option Addr) (c2 : Nat) (fs : List Fx), v = .int .i64 fy ∧ i = .int .i64 q ∧ fy ≤ N ∧ q ≤ 255 ∧ Hid (fy = fx + 5 * fs.length ∧ q + fs.length = Jn) ∧ Hid (RS wo wr nm kd al sz2 (.slice a1 bs.length c1) (.slice a2 fs.length c2) bs fs) ∧ Hid (FS = fs ++ rdFixs l N q fy)) (fun _ i _ => (intOf i).toNat)
        case atStart => exact ⟨fx, Jn, none, 0, [], rfl, rfl, hfx, by omega, hidden ⟨by simp, by simp⟩, hrs1, hidden (by rw [HFS2.out]; rfl)⟩
        case round =>
          obtain ⟨fy, q, a2, c2, fs, rfl, rfl, hfy, hq255, hcount, hrs, hfsq⟩ := hrel
          have hcn := hcount.out
          have s5 : IntKind.i64.wrap ((fy : Int) + 5) = (fy : Int) + 5 := IntWalk.i64_in _ (by omega)
          by_cases hgo : 0 < q ∧ (fy : Int) + 5 ≤ (N : Int)
          · obtain ⟨hq0, hroom⟩ := hgo
            have hq0' : (0 : Int) < (q : Int) := by omega
            obtain ⟨y0, hy0'⟩ : ∃ z, by1 l (fy : Int) = z := ⟨_, rfl⟩
            obtain ⟨y1, hy1'⟩ : ∃ z, by1 l ((fy : Int) + 1) = z := ⟨_, rfl⟩
            obtain ⟨y2, hy2'⟩ : ∃ z, by1 l ((fy : Int) + 2) = z := ⟨_, rfl⟩
            obtain ⟨y3, hy3'⟩ : ∃ z, by2 l ((fy : Int) + 3) = z := ⟨_, rfl⟩
            have hyb := by2_le HWF.out ((fy : Int) + 3)
            rw [hy3'] at hyb
            have HY0 : Hid (∀ W, Below w.heap.size w W → Calls Tryz.prog 49 #[.slice (some ⟨b, off, none⟩) n cap, .int .i64 (fy : Int)] W fun e w' => e = .returned (.int .i64 y0) ∧ W = w') := fun W hW => by have := HB7.out W hW (fy : Int); rwa [hy0'] at this
            have HY1 : Hid (∀ W, Below w.heap.size w W → Calls Tryz.prog 49 #[.slice (some ⟨b, off, none⟩) n cap, .int .i64 ((fy : Int) + 1)] W fun e w' => e = .returned (.int .i64 y1) ∧ W = w') := fun W hW => by have := HB7.out W hW ((fy : Int) + 1); rwa [hy1'] at this
            have HY2 : Hid (∀ W, Below w.heap.size w W → Calls Tryz.prog 49 #[.slice (some ⟨b, off, none⟩) n cap, .int .i64 ((fy : Int) + 2)] W fun e w' => e = .returned (.int .i64 y2) ∧ W = w') := fun W hW => by have := HB7.out W hW ((fy : Int) + 2); rwa [hy2'] at this
            have HY3 : Hid (∀ W, Below w.heap.size w W → Calls Tryz.prog 48 #[.slice (some ⟨b, off, none⟩) n cap, .int .i64 ((fy : Int) + 3), .int .i64 2] W fun e w' => e = .returned (.int .i64 y3) ∧ W = w') := fun W hW => by have := HGN.out W hW ((fy : Int) + 3); rwa [hy3'] at this
            have HF_ : Hid (rdFix l (fy : Int) = ⟨y0, y1, y2, y3 - 1000⟩) := by show _ = _; unfold rdFix; rw [hy0', hy1', hy2', hy3']
            have r1 : IntKind.i64.wrap ((fy : Int) + 1) = (fy : Int) + 1 := IntWalk.i64_in _ (by omega)
            have r2 : IntKind.i64.wrap ((fy : Int) + 2) = (fy : Int) + 2 := IntWalk.i64_in _ (by omega)
            have r3 : IntKind.i64.wrap ((fy : Int) + 3) = (fy : Int) + 3 := IntWalk.i64_in _ (by omega)
            have r4 : IntKind.i64.wrap (y3 - 1000) = y3 - 1000 := IntWalk.i64_in _ (by omega)
            have hJ0' : Hid (JX wo nm kd al sz2 (.slice a1 bs.length c1) (.slice a2 fs.length c2) bs fs ⟨y0, y1, y2, y3 - 1000⟩ 0 wr.drew fun _ => undef) := hrs.out.drew
            clear hy0' hy1' hy2' hy3' hrs1 hrs
            go_upto_region 25 with fail
            refine wp_region_chain (m := 3) (js := [.quiet (.pointer (some ⟨gs, 5, none⟩)) 3, .quiet (.slice a2 fs.length c2) 1, .quiet (.slice (some ⟨b, off, none⟩) n cap) 3, .quiet (.int .i64 (fy : Int)) 3, .quiet (.int .i64 y0) 3, .quiet (.slice (some ⟨b, off, none⟩) n cap) 3, .quiet (.int .i64 (fy : Int)) 3, .quiet (.int .i64 ((fy : Int) + 1)) 3, .quiet (.int .i64 y1) 3, .quiet (.slice (some ⟨b, off, none⟩) n cap) 3, .quiet (.int .i64 (fy : Int)) 3, .quiet (.int .i64 ((fy : Int) + 2)) 3, .quiet (.int .i64 y2) 3, .quiet (.slice (some ⟨b, off, none⟩) n cap) 3, .quiet (.int .i64 (fy : Int)) 3, .quiet (.int .i64 ((fy : Int) + 3)) 3, .quiet (.int .i64 y3) 3, .quiet (.int .i64 (y3 - 1000)) 3, .quiet (.agg #[.int .i64 y0, .int .i64 y1, .int .i64 y2, .int .i64 (y3 - 1000)]) 3, .chain 0, .chain 1, .quiet (.pointer (some ⟨gs, 5, none⟩)) 3, .chain 2]) (by kernel_rfl) (JX wo nm kd al sz2 (.slice a1 bs.length c1) (.slice a2 fs.length c2) bs fs ⟨y0, y1, y2, y3 - 1000⟩) (by kernel_rfl) (by kernel_rfl) ⟨_, hJ0'.out⟩ (fun vals => ?_) ?_
            · show SeqW _ _ _ _ _ _ _
              refine ⟨fun kk hkk W hW => ?_, ?_⟩
              · unfold Oper.wp
                simp [go_sem]
                try exact ⟨_, rfl, rfl⟩
              simp only [Act.put, pA, pB, pC]
              refine ⟨fun kk hkk W hW => ?_, ?_⟩
              · have q : W.cell? ⟨gs, 5, none⟩ = some (.slice a2 fs.length c2) := by rw [← HGS.out]; exact (JX.sec hW hkk).cell 5
                unfold Oper.wp
                simp [go_sem, q]
                try exact ⟨_, rfl, rfl⟩
              simp only [Act.put, pA, pB, pC]
              iterate 2
                refine ⟨fun kk hkk W hW => ?_, ?_⟩
                · unfold Oper.wp
                  simp [go_sem]
                  try exact ⟨_, rfl, rfl⟩
                simp only [Act.put, pA, pB, pC]
              refine ⟨fun kk hkk W hW => ?_, ?_⟩
              · unfold Oper.wp
                simp [go_sem]
                refine (HY0.out W (HRW.out W (JX.below hW))).mono ?_
                rintro e _ ⟨rfl, rfl⟩
                first | exact rfl | exact ⟨rfl, rfl⟩ | exact ⟨_, rfl, rfl, rfl⟩
              simp only [Act.put, pA, pB, pC]
              iterate 2
                refine ⟨fun kk hkk W hW => ?_, ?_⟩
                · unfold Oper.wp
                  simp [go_sem]
                  try exact ⟨_, rfl, rfl⟩
                simp only [Act.put, pA, pB, pC]
              refine ⟨fun kk hkk W hW => ?_, ?_⟩
              · unfold Oper.wp
                simp [go_sem, r1]
                try exact ⟨_, rfl, rfl⟩
              simp only [Act.put, pA, pB, pC]
              refine ⟨fun kk hkk W hW => ?_, ?_⟩
              · unfold Oper.wp
                simp [go_sem]
                refine (HY1.out W (HRW.out W (JX.below hW))).mono ?_
                rintro e _ ⟨rfl, rfl⟩
                first | exact rfl | exact ⟨rfl, rfl⟩ | exact ⟨_, rfl, rfl, rfl⟩
              simp only [Act.put, pA, pB, pC]
              iterate 2
                refine ⟨fun kk hkk W hW => ?_, ?_⟩
                · unfold Oper.wp
                  simp [go_sem]
                  try exact ⟨_, rfl, rfl⟩
                simp only [Act.put, pA, pB, pC]
              refine ⟨fun kk hkk W hW => ?_, ?_⟩
              · unfold Oper.wp
                simp [go_sem, r2]
                try exact ⟨_, rfl, rfl⟩
              simp only [Act.put, pA, pB, pC]
              refine ⟨fun kk hkk W hW => ?_, ?_⟩
              · unfold Oper.wp
                simp [go_sem]
                refine (HY2.out W (HRW.out W (JX.below hW))).mono ?_
                rintro e _ ⟨rfl, rfl⟩
                first | exact rfl | exact ⟨rfl, rfl⟩ | exact ⟨_, rfl, rfl, rfl⟩
              simp only [Act.put, pA, pB, pC]
              iterate 2
                refine ⟨fun kk hkk W hW => ?_, ?_⟩
                · unfold Oper.wp
                  simp [go_sem]
                  try exact ⟨_, rfl, rfl⟩
                simp only [Act.put, pA, pB, pC]
              refine ⟨fun kk hkk W hW => ?_, ?_⟩
              · unfold Oper.wp
                simp [go_sem, r3]
                try exact ⟨_, rfl, rfl⟩
              simp only [Act.put, pA, pB, pC]
              refine ⟨fun kk hkk W hW => ?_, ?_⟩
              · unfold Oper.wp
                simp [go_sem]
                refine (HY3.out W (HRW.out W (JX.below hW))).mono ?_
                rintro e _ ⟨rfl, rfl⟩
                first | exact rfl | exact ⟨rfl, rfl⟩ | exact ⟨_, rfl, rfl, rfl⟩
              simp only [Act.put, pA, pB, pC]
              refine ⟨fun kk hkk W hW => ?_, ?_⟩
              · unfold Oper.wp
                simp [go_sem, r4]
                try exact ⟨_, rfl, rfl⟩
              simp only [Act.put, pA, pB, pC]
              refine ⟨fun kk hkk W hW => ?_, ?_⟩
              · unfold Oper.wp
                simp [go_sem]
                try exact ⟨_, rfl, rfl⟩
              simp only [Act.put, pA, pB, pC]
              refine ⟨fun W hW => ?_, ?_⟩
              · have hW0 : RS wo W nm kd al sz2 (.slice a1 bs.length c1) (.slice a2 fs.length c2) bs fs := hW
                have hN : JX wo nm kd al sz2 (.slice a1 bs.length c1) (.slice a2 fs.length c2) bs fs ⟨y0, y1, y2, y3 - 1000⟩ 1 (W.alloc (.cells #[.int .i64 y0, .int .i64 y1, .int .i64 y2, .int .i64 (y3 - 1000)] 65)) (upd vals 0 (.slice (some ⟨W.heap.size, 0, none⟩) 1 1)) := ⟨hW0.alloc _, W.heap.size, rfl, Has.new _ _ _⟩
                unfold Oper.wp
                simp [go_sem]
                first | exact hN | exact ⟨_, rfl, hN⟩
              simp only [Act.put, pA, pB, pC]
              refine ⟨fun W hW => ?_, ?_⟩
              · obtain ⟨hW1, hb, hv, hh⟩ := hW
                refine wp_append_own W _ _ _ rfl wo.heap.size 65 i2 (.agg #[.int .i64 0, .int .i64 0, .int .i64 0, .int .i64 0]) 4 32 Tryz.underlying46 hi2 hx0 hx1 hx2 rfl (by decide) _ _ _ rfl hW1.own2 ⟨hb, 0, none⟩ 1 1 [.int .i64 y0, .int .i64 y1, .int .i64 y2, .int .i64 (y3 - 1000)] hv ?_ ?_ ?_ ?_ ?_ ?_ ?_
                · rfl
                · intro t u ht
                  rw [addr_row, hh.cell t]
                  simpa using ht
                · intro u hu
                  simp at hu
                  rcases hu with rfl | rfl | rfl | rfl <;> rfl
                · unfold maxLen; omega
                · omega
                · exact hW1.below.size
                · intro v' w' h2 h3 _
                  obtain ⟨b2, d2, rfl⟩ := own_shape h2
                  obtain ⟨q1, q2⟩ := hW1.fixup (f := ⟨y0, y1, y2, y3 - 1000⟩) h3 h2
                  exact ⟨_, rfl, (⟨b2, d2, rfl, hW1.below.grown h3 hW1.below.size (fun q hq => (hW1.own2.lt q hq).1), q1, q2⟩ : JX wo nm kd al sz2 (.slice a1 bs.length c1) (.slice a2 fs.length c2) bs fs ⟨y0, y1, y2, y3 - 1000⟩ 2 w' (upd vals 1 (.slice b2 (fs.length + 1) d2)))⟩
              simp only [Act.put, pA, pB, pC]
              refine ⟨fun kk hkk W hW => ?_, ?_⟩
              · unfold Oper.wp
                simp [go_sem]
                try exact ⟨_, rfl, rfl⟩
              simp only [Act.put, pA, pB, pC]
              refine ⟨fun W hW => ?_, trivial⟩
              obtain ⟨b2, d2, hv2, hbl2, q1, q2⟩ := hW
              rw [hv2]
              have ck : W.cell? ⟨gs, 5, none⟩ = some (.slice a2 fs.length c2) := by rw [← HGS.out]; exact q1.cell 5
              have fk : W.frozen? ⟨gs, 5, none⟩ = false := by rw [← HGS.out]; exact q1.free 5
              rw [HGS.out] at q2
              have hN : ∀ u, JX wo nm kd al sz2 (.slice a1 bs.length c1) (.slice a2 fs.length c2) bs fs ⟨y0, y1, y2, y3 - 1000⟩ 3 (W.setCell ⟨gs, 5, none⟩ (.slice b2 (fs.length + 1) d2)) (upd vals 2 u) := fun u => ⟨b2, d2, q2⟩
              clear q1 q2
              unfold Oper.wp
              simp [go_sem, ck, fk]
              first | exact hN _ | exact ⟨undef, hN _⟩ | exact ⟨_, rfl, hN _⟩
            · intro W vals hJ
              obtain ⟨b2, d2, hrs3⟩ := hJ
              have HRS3 := hidden hrs3
              simp only [putAll, List.map_cons, List.map_nil, Job.val, Act.put, pA, pB, pC]
              have HF3 : Hid (FS = (fs ++ [⟨y0, y1, y2, y3 - 1000⟩]) ++ rdFixs l N (q - 1) ((fy + 5 : Nat) : Int)) := by
                show _ = _
                rw [hfsq.out, show q = (q - 1) + 1 by omega, rdFixs_next hroom, HF_.out, List.append_assoc, show (fy : Int) + 5 = ((fy + 5 : Nat) : Int) by omega]
                rfl
              have hl3 : (fs ++ [(⟨y0, y1, y2, y3 - 1000⟩ : Fx)]).length = fs.length + 1 := by simp
              have HRS4 : Hid (RS wo W nm kd al sz2 (.slice a1 bs.length c1) (.slice b2 (fs ++ [(⟨y0, y1, y2, y3 - 1000⟩ : Fx)]).length d2) bs (fs ++ [⟨y0, y1, y2, y3 - 1000⟩])) := by rw [hl3]; exact hrs3
              clear hrs3 hJ0' HY0 HY1 HY2 HY3 hfsq r1 r2 r3 r4
              go_wp2_with fail
              go_roundw
              case rel => exact ⟨fy + 5, q - 1, b2, d2, _, by go_num, by go_num, by omega, by omega, hidden ⟨by rw [hl3]; omega, by rw [hl3]; omega⟩, HRS4, HF3⟩
              case measure => simp [intOf]; omega
          · have HFE : Hid (FS = fs) := by
              show _ = _
              rw [hfsq.out, rdFixs_end (by omega), List.append_nil]
            have hro2 := hro.out.only hrs.out.below
            have o0 : wr.cell? ⟨gh + 1, 0, none⟩ = some (.slice sa ss.length sc) := by rw [← hsz]; exact hro2.obj.cell 0
            have p0 : wr.cell? ⟨gs, 0, none⟩ = some (.string nm) := by rw [← HGS.out]; exact hrs.out.sec.cell 0
            have p1 : wr.cell? ⟨gs, 1, none⟩ = some (.int .i64 kd) := by rw [← HGS.out]; exact hrs.out.sec.cell 1
            have p2 : wr.cell? ⟨gs, 2, none⟩ = some (.int .i64 al) := by rw [← HGS.out]; exact hrs.out.sec.cell 2
            have p3 : wr.cell? ⟨gs, 3, none⟩ = some (.slice a1 bs.length c1) := by rw [← HGS.out]; exact hrs.out.sec.cell 3
            have p4 : wr.cell? ⟨gs, 4, none⟩ = some (.int .i64 sz2) := by rw [← HGS.out]; exact hrs.out.sec.cell 4
            have p5 : wr.cell? ⟨gs, 5, none⟩ = some (.slice a2 fs.length c2) := by rw [← HGS.out]; exact hrs.out.sec.cell 5
            have HROA := hidden (hro2.alloc (.cells #[.string nm, .int .i64 kd, .int .i64 al, .slice a1 bs.length c1, .int .i64 sz2, .slice a2 fs.length c2] 48))
            have HNEW : Hid (Has (wr.alloc (.cells #[.string nm, .int .i64 kd, .int .i64 al, .slice a1 bs.length c1, .int .i64 sz2, .slice a2 fs.length c2] 48)) wr.heap.size 48 #[.string nm, .int .i64 kd, .int .i64 al, .slice a1 bs.length c1, .int .i64 sz2, .slice a2 fs.length c2]) := Has.new _ _ _
            have hbase : w2.heap.size + 1 ≤ (wr.alloc (.cells #[.string nm, .int .i64 kd, .int .i64 al, .slice a1 bs.length c1, .int .i64 sz2, .slice a2 fs.length c2] 48)).heap.size := HROA.out.obj.lt
            have hssl : ss.length ≤ 8 := by have := hsl.out; omega
            have HREC : Hid (rdSecs l TB N Sn 10 ((N : Int) + (k : Int)) (10 + 6 * (Sn : Int) + 6 * (Mn : Int)) = (rdSecs l TB N (Sn - (j + 1)) (10 + 6 * ((j + 1 : Nat) : Int)) at2 fy).map fun r => (ss ++ [(⟨⟨nm, kd, al, bs, sz2, fs⟩, a1, c1, a2, c2⟩ : Sp)]).map Sp.s ++ r) := by
              show _ = _
              rw [hrec.out, hstep.out, HFE.out, show ((fx : Int) + 5 * (fs.length : Int)) = (fy : Int) by omega, Option.map_map]
              congr 1
              funext r
              simp
            have HLN : Hid (∀ y ∈ ss ++ [(⟨⟨nm, kd, al, bs, sz2, fs⟩, a1, c1, a2, c2⟩ : Sp)], y.s.lens) := fun y hy => by
              rcases List.mem_append.1 hy with h' | h'
              · exact hlens.out y h'
              · simp only [List.mem_singleton] at h'
                rw [h']
                exact ⟨by show nm.size ≤ maxLen; unfold maxLen; omega, by show bs.length ≤ _; omega, by show fs.length ≤ _; omega⟩
            clear hro2 hfsq hcount hrec hstep hcn
            by_cases hq0 : 0 < q
            · have hq0' : (0 : Int) < (q : Int) := by omega
              have hroom : ¬ (fy : Int) + 5 ≤ (N : Int) := fun e => hgo ⟨hq0, e⟩
              have hroom' : (N : Int) < (fy : Int) + 5 := by omega
              clear hgo hq0
              go_wp2_with (at_builtin; refine wpList_append_own _ rfl _ _ 23 rfl (w2.heap.size + 1) 48 i0 (.agg #[.string ⟨#[]⟩, .int .i64 0, .int .i64 0, .slice none 0 0, .int .i64 0, .slice none 0 0]) 6 88 Tryz.underlying23 hi0 hz0 hz1 hz2 rfl (by decide) _ _ _ rfl HROA.out.secs.row ⟨wr.heap.size, 0, none⟩ 1 1 [.string nm, .int .i64 kd, .int .i64 al, .slice a1 bs.length c1, .int .i64 sz2, .slice a2 fs.length c2] rfl rfl (fun t u ht => by rw [addr_row, HNEW.out.cell t]; simpa using ht) (by intro u hu; simp at hu; rcases hu with rfl | rfl | rfl | rfl | rfl | rfl <;> rfl) (by unfold maxLen; omega) (by omega) hbase ?_)
              intro v' w' hown hgrow _
              rw [← hsz] at hown
              obtain ⟨b2, d2, rfl⟩ := own_shape hown
              obtain ⟨q1, q2⟩ := hro.out.app (wb := wo) (hrs.out.alloc _) hbwf.out hgrow hown
              rw [hsz] at q1 q2
              have ck : w'.cell? ⟨gh + 1, 0, none⟩ = some (.slice sa ss.length sc) := q1.cell 0
              have fk := q1.free 0
              have Q2 := hidden q2
              clear hown hgrow q1 q2 HROA HNEW hbase p0 p1 p2 p3 p4 p5 o0 hrs hro hrs1
              go_wp2_with fail
              go_roundw
              case rel => exact ⟨j + 1, at2, fy, b2, d2, ss ++ [⟨⟨nm, kd, al, bs, sz2, fs⟩, a1, c1, a2, c2⟩], rfl, rfl, by go_num, by omega, hat2, hfy, hidden (by rw [List.length_append, hsl.out]; rfl), hidden (by rw [List.length_append]; exact Q2.out), HREC, HLN⟩
              case measure => simp [intOf]; omega
            · have hq0' : ¬ (0 : Int) < (q : Int) := by omega
              have hq0'' : (q : Int) ≤ 0 := by omega
              clear hgo
              go_wp2_with (at_builtin; refine wpList_append_own _ rfl _ _ 23 rfl (w2.heap.size + 1) 48 i0 (.agg #[.string ⟨#[]⟩, .int .i64 0, .int .i64 0, .slice none 0 0, .int .i64 0, .slice none 0 0]) 6 88 Tryz.underlying23 hi0 hz0 hz1 hz2 rfl (by decide) _ _ _ rfl HROA.out.secs.row ⟨wr.heap.size, 0, none⟩ 1 1 [.string nm, .int .i64 kd, .int .i64 al, .slice a1 bs.length c1, .int .i64 sz2, .slice a2 fs.length c2] rfl rfl (fun t u ht => by rw [addr_row, HNEW.out.cell t]; simpa using ht) (by intro u hu; simp at hu; rcases hu with rfl | rfl | rfl | rfl | rfl | rfl <;> rfl) (by unfold maxLen; omega) (by omega) hbase ?_)
              intro v' w' hown hgrow _
              rw [← hsz] at hown
              obtain ⟨b2, d2, rfl⟩ := own_shape hown
              obtain ⟨q1, q2⟩ := hro.out.app (wb := wo) (hrs.out.alloc _) hbwf.out hgrow hown
              rw [hsz] at q1 q2
              have ck : w'.cell? ⟨gh + 1, 0, none⟩ = some (.slice sa ss.length sc) := q1.cell 0
              have fk := q1.free 0
              have Q2 := hidden q2
              clear hown hgrow q1 q2 HROA HNEW hbase p0 p1 p2 p3 p4 p5 o0 hrs hro hrs1
              go_wp2_with fail
              go_roundw
              case rel => exact ⟨j + 1, at2, fy, b2, d2, ss ++ [⟨⟨nm, kd, al, bs, sz2, fs⟩, a1, c1, a2, c2⟩], rfl, rfl, by go_num, by omega, hat2, hfy, hidden (by rw [List.length_append, hsl.out]; rfl), hidden (by rw [List.length_append]; exact Q2.out), HREC, HLN⟩
              case measure => simp [intOf]; omega
    · have hjS : j = Sn := by omega
      subst hjS
      have hi : ¬ (j : Int) < (j : Int) := by omega
      have HSS : Hid (parse l = some (ss.map Sp.s, rdSyms l TB Mn (10 + 6 * (j : Int)))) := by
        show _ = _
        rw [HPAR3.out, hrec.out, Nat.sub_self, rdSecs]
        simp
      have HSL := hidden hsl.out
      have HLN := hidden hlens.out
      have HRO := hidden hro.out
      clear hrec hsl hro hlens hlt HPAR3 hfx hat
      have u1 : IntKind.i64.wrap (10 + 6 * (j : Int)) = 10 + 6 * (j : Int) := IntWalk.i64_in _ (by omega)
      go_wp2_with fail
      go_loopw [18] (fun i wr => ∃ (q : Nat) (ma : Option Addr) (mc : Nat) (ms : List Sm), i = .int .i64 q ∧ q ≤ Mn ∧ Hid (ms.length = q) ∧ Hid (RO w2 wr (.slice sa ss.length sc) (.slice ma ms.length mc) ss ms) ∧ Hid (rdSyms l TB Mn (10 + 6 * (j : Int)) = ms ++ rdSyms l TB (Mn - q) (10 + 6 * (j : Int) + 6 * (q : Int))) ∧ Hid (∀ x ∈ ms, x.name.size ≤ maxLen)) (fun i _ => Mn - (intOf i).toNat)
      case atStart => exact ⟨0, none, 0, [], rfl, Nat.zero_le _, hidden rfl, HRO, hidden (by simp), hidden (fun x hx => by cases hx)⟩
      case round =>
        obtain ⟨q, ma, mc, ms, rfl, hq, hml, hro, hrec, hlens⟩ := hrel
        clear HRO
        have h0 : wr.cell? ⟨gh, 0, none⟩ = some (.int .i64 j) := (HHD.out wr hro.out.below).cell 0
        have h1 : wr.cell? ⟨gh, 1, none⟩ = some (.int .i64 Mn) := (HHD.out wr hro.out.below).cell 1
        have hbw1 := HOW.out wr hro.out.below
        by_cases hlt : q < Mn
        · have hi2' : (q : Int) < (Mn : Int) := by omega
          obtain ⟨fr, hfr⟩ : ∃ z, 10 + 6 * (j : Int) + 6 * (q : Int) = z := ⟨_, rfl⟩
          have hfr0 : 0 ≤ fr := by omega
          have hfr1 : fr ≤ 1000 := by omega
          have u2 : IntKind.i64.wrap (6 * (q : Int)) = 6 * (q : Int) := IntWalk.i64_in _ (by omega)
          have u3' : IntKind.i64.wrap (10 + 6 * (j : Int) + 6 * (q : Int)) = fr := by rw [hfr]; exact IntWalk.i64_in _ (by omega)
          have hG1 := hidden (HGN.out wr hbw1 fr)
          have hN1 := hidden (HNA.out wr hbw1 (by2 l fr))
          obtain ⟨nm, hnm⟩ : ∃ z, nameOf TB (by2 l fr) = z := ⟨_, rfl⟩
          obtain ⟨y1, y1'⟩ : ∃ z, by1 l (fr + 2) = z := ⟨_, rfl⟩
          obtain ⟨y2, y2'⟩ : ∃ z, by1 l (fr + 3) = z := ⟨_, rfl⟩
          obtain ⟨y3, y3'⟩ : ∃ z, by2 l (fr + 4) = z := ⟨_, rfl⟩
          have hnms : nm.size ≤ 400 := by rw [← hnm]; exact HNS.out _
          have y20 : 0 ≤ y2 := by rw [← y2']; exact by1_nonneg _ _
          have y21 : y2 ≤ 255 := by rw [← y2']; exact by1_le HWF.out _
          rw [hnm] at hN1
          have HY1 : Hid (∀ W, Below w.heap.size w W → Calls Tryz.prog 49 #[.slice (some ⟨b, off, none⟩) n cap, .int .i64 (fr + 2)] W fun e w' => e = .returned (.int .i64 y1) ∧ W = w') := fun W hW => by have := HB7.out W hW (fr + 2); rwa [y1'] at this
          have HY2 : Hid (∀ W, Below w.heap.size w W → Calls Tryz.prog 49 #[.slice (some ⟨b, off, none⟩) n cap, .int .i64 (fr + 3)] W fun e w' => e = .returned (.int .i64 y2) ∧ W = w') := fun W hW => by have := HB7.out W hW (fr + 3); rwa [y2'] at this
          have HY3 : Hid (∀ W, Below w.heap.size w W → Calls Tryz.prog 48 #[.slice (some ⟨b, off, none⟩) n cap, .int .i64 (fr + 4), .int .i64 2] W fun e w' => e = .returned (.int .i64 y3) ∧ W = w') := fun W hW => by have := HGN.out W hW (fr + 4); rwa [y3'] at this
          have HREC : Hid (rdSyms l TB Mn (10 + 6 * (j : Int)) = (ms ++ [⟨nm, y1, y2 - 2, y3⟩]) ++ rdSyms l TB (Mn - (q + 1)) (10 + 6 * (j : Int) + 6 * ((q + 1 : Nat) : Int))) := by
            show _ = _
            rw [hrec.out, show Mn - q = (Mn - (q + 1)) + 1 by omega, rdSyms, hfr, rdSym, hnm, y1', y2', y3', List.append_assoc, show 10 + 6 * (j : Int) + 6 * ((q + 1 : Nat) : Int) = fr + 6 by omega]
            rfl
          have HLM : Hid (∀ x ∈ ms ++ [(⟨nm, y1, y2 - 2, y3⟩ : Sm)], x.name.size ≤ maxLen) := fun x hx => by
            rcases List.mem_append.1 hx with h' | h'
            · exact hlens.out x h'
            · simp only [List.mem_singleton] at h'
              rw [h']
              show nm.size ≤ maxLen
              unfold maxLen; omega
          have r2 : IntKind.i64.wrap (fr + 2) = fr + 2 := IntWalk.i64_in _ (by omega)
          have r3 : IntKind.i64.wrap (fr + 3) = fr + 3 := IntWalk.i64_in _ (by omega)
          have r4 : IntKind.i64.wrap (y2 - 2) = y2 - 2 := IntWalk.i64_in _ (by omega)
          have r5 : IntKind.i64.wrap (fr + 4) = fr + 4 := IntWalk.i64_in _ (by omega)
          have hJ0 : Hid (JY w2 (.slice sa ss.length sc) (.slice ma ms.length mc) ss ms ⟨nm, y1, y2 - 2, y3⟩ 0 wr.drew fun _ => undef) := hro.out.drew
          have hml12 : ms.length ≤ 12 := by have := hml.out; omega
          have hl3 : (ms ++ [(⟨nm, y1, y2 - 2, y3⟩ : Sm)]).length = ms.length + 1 := by simp
          have HL3 := hidden hl3
          have hbase0 : Below w.heap.size w wr := hbw1
          clear hnm y1' y2' y3' hrec hlens hro hbw1 hfr hl3
          go_wp2_with fail
          refine hG1.out.mono ?_
          clear hG1
          rintro e _ ⟨rfl, rfl⟩
          go_wp2_with fail
          refine hN1.out.mono ?_
          clear hN1
          rintro e _ ⟨⟨bb, rfl⟩, rfl⟩
          go_upto_region 33 with fail
          refine wp_region_chain (m := 3) (js := [.quiet (.pointer (some ⟨gh + 1, 1, none⟩)) 3, .quiet (.slice ma ms.length mc) 1, .quiet (.string nm) 3, .quiet (.slice (some ⟨b, off, none⟩) n cap) 3, .quiet (.int .i64 fr) 3, .quiet (.int .i64 (fr + 2)) 3, .quiet (.int .i64 y1) 3, .quiet (.slice (some ⟨b, off, none⟩) n cap) 3, .quiet (.int .i64 fr) 3, .quiet (.int .i64 (fr + 3)) 3, .quiet (.int .i64 y2) 3, .quiet (.int .i64 (y2 - 2)) 3, .quiet (.slice (some ⟨b, off, none⟩) n cap) 3, .quiet (.int .i64 fr) 3, .quiet (.int .i64 (fr + 4)) 3, .quiet (.int .i64 y3) 3, .quiet (.agg #[.string nm, .int .i64 y1, .int .i64 (y2 - 2), .int .i64 y3]) 3, .chain 0, .chain 1, .quiet (.pointer (some ⟨gh + 1, 1, none⟩)) 3, .chain 2]) (by kernel_rfl) (JY w2 (.slice sa ss.length sc) (.slice ma ms.length mc) ss ms ⟨nm, y1, y2 - 2, y3⟩) (by kernel_rfl) (by kernel_rfl) ⟨_, hJ0.out⟩ (fun vals => ?_) ?_
          · show SeqW _ _ _ _ _ _ _
            refine ⟨fun kk hkk W hW => ?_, ?_⟩
            · unfold Oper.wp
              simp [go_sem]
              try exact ⟨_, rfl, rfl⟩
            simp only [Act.put, pA, pB, pC]
            refine ⟨fun kk hkk W hW => ?_, ?_⟩
            · have q : W.cell? ⟨gh + 1, 1, none⟩ = some (.slice ma ms.length mc) := by rw [← hsz]; exact (JY.obj hW hkk).cell 1
              unfold Oper.wp
              simp [go_sem, q]
              try exact ⟨_, rfl, rfl⟩
            simp only [Act.put, pA, pB, pC]
            iterate 3
              refine ⟨fun kk hkk W hW => ?_, ?_⟩
              · unfold Oper.wp
                simp [go_sem]
                try exact ⟨_, rfl, rfl⟩
              simp only [Act.put, pA, pB, pC]
            refine ⟨fun kk hkk W hW => ?_, ?_⟩
            · unfold Oper.wp
              simp [go_sem, r2]
              try exact ⟨_, rfl, rfl⟩
            simp only [Act.put, pA, pB, pC]
            refine ⟨fun kk hkk W hW => ?_, ?_⟩
            · unfold Oper.wp
              simp [go_sem]
              refine (HY1.out W (HOW.out W (JY.below hW))).mono ?_
              rintro e _ ⟨rfl, rfl⟩
              first | exact rfl | exact ⟨rfl, rfl⟩ | exact ⟨_, rfl, rfl, rfl⟩
            simp only [Act.put, pA, pB, pC]
            iterate 2
              refine ⟨fun kk hkk W hW => ?_, ?_⟩
              · unfold Oper.wp
                simp [go_sem]
                try exact ⟨_, rfl, rfl⟩
              simp only [Act.put, pA, pB, pC]
            refine ⟨fun kk hkk W hW => ?_, ?_⟩
            · unfold Oper.wp
              simp [go_sem, r3]
              try exact ⟨_, rfl, rfl⟩
            simp only [Act.put, pA, pB, pC]
            refine ⟨fun kk hkk W hW => ?_, ?_⟩
            · unfold Oper.wp
              simp [go_sem]
              refine (HY2.out W (HOW.out W (JY.below hW))).mono ?_
              rintro e _ ⟨rfl, rfl⟩
              first | exact rfl | exact ⟨rfl, rfl⟩ | exact ⟨_, rfl, rfl, rfl⟩
            simp only [Act.put, pA, pB, pC]
            refine ⟨fun kk hkk W hW => ?_, ?_⟩
            · unfold Oper.wp
              simp [go_sem, r4]
              try exact ⟨_, rfl, rfl⟩
            simp only [Act.put, pA, pB, pC]
            iterate 2
              refine ⟨fun kk hkk W hW => ?_, ?_⟩
              · unfold Oper.wp
                simp [go_sem]
                try exact ⟨_, rfl, rfl⟩
              simp only [Act.put, pA, pB, pC]
            refine ⟨fun kk hkk W hW => ?_, ?_⟩
            · unfold Oper.wp
              simp [go_sem, r5]
              try exact ⟨_, rfl, rfl⟩
            simp only [Act.put, pA, pB, pC]
            refine ⟨fun kk hkk W hW => ?_, ?_⟩
            · unfold Oper.wp
              simp [go_sem]
              refine (HY3.out W (HOW.out W (JY.below hW))).mono ?_
              rintro e _ ⟨rfl, rfl⟩
              first | exact rfl | exact ⟨rfl, rfl⟩ | exact ⟨_, rfl, rfl, rfl⟩
            simp only [Act.put, pA, pB, pC]
            refine ⟨fun kk hkk W hW => ?_, ?_⟩
            · unfold Oper.wp
              simp [go_sem]
              try exact ⟨_, rfl, rfl⟩
            simp only [Act.put, pA, pB, pC]
            refine ⟨fun W hW => ?_, ?_⟩
            · have hW0 : RO w2 W (.slice sa ss.length sc) (.slice ma ms.length mc) ss ms := hW
              have hN : JY w2 (.slice sa ss.length sc) (.slice ma ms.length mc) ss ms ⟨nm, y1, y2 - 2, y3⟩ 1 (W.alloc (.cells #[.string nm, .int .i64 y1, .int .i64 (y2 - 2), .int .i64 y3] 51)) (upd vals 0 (.slice (some ⟨W.heap.size, 0, none⟩) 1 1)) := ⟨hW0.alloc _, W.heap.size, rfl, Has.new _ _ _⟩
              unfold Oper.wp
              simp [go_sem]
              first | exact hN | exact ⟨_, rfl, hN⟩
            simp only [Act.put, pA, pB, pC]
            refine ⟨fun W hW => ?_, ?_⟩
            · obtain ⟨hW1, hb, hv, hh⟩ := hW
              refine wp_append_own W _ _ _ rfl (w2.heap.size + 1) 51 i1 (.agg #[.string ⟨#[]⟩, .int .i64 0, .int .i64 0, .int .i64 0]) 4 40 Tryz.underlying24 hi1 hy0 hy1 hy2 rfl (by decide) _ _ _ rfl hW1.syms ⟨hb, 0, none⟩ 1 1 [.string nm, .int .i64 y1, .int .i64 (y2 - 2), .int .i64 y3] hv ?_ ?_ ?_ ?_ ?_ ?_ ?_
              · rfl
              · intro t u ht
                rw [addr_row, hh.cell t]
                simpa using ht
              · intro u hu
                simp at hu
                rcases hu with rfl | rfl | rfl | rfl <;> rfl
              · unfold maxLen; omega
              · omega
              · exact hW1.obj.lt
              · intro v' w' h2 h3 _
                obtain ⟨b2, d2, rfl⟩ := own_shape h2
                obtain ⟨q1, q2⟩ := hW1.appM (m := ⟨nm, y1, y2 - 2, y3⟩) h3 h2
                exact ⟨_, rfl, (⟨b2, d2, rfl, hW1.below.grown h3 hW1.below.size (fun q hq => by have := (hW1.syms.lt q hq).1; omega), q1, q2⟩ : JY w2 (.slice sa ss.length sc) (.slice ma ms.length mc) ss ms ⟨nm, y1, y2 - 2, y3⟩ 2 w' (upd vals 1 (.slice b2 (ms.length + 1) d2)))⟩
            simp only [Act.put, pA, pB, pC]
            refine ⟨fun kk hkk W hW => ?_, ?_⟩
            · unfold Oper.wp
              simp [go_sem]
              try exact ⟨_, rfl, rfl⟩
            simp only [Act.put, pA, pB, pC]
            refine ⟨fun W hW => ?_, trivial⟩
            obtain ⟨b2, d2, hv2, hbl2, q1, q2⟩ := hW
            rw [hv2]
            have ck : W.cell? ⟨gh + 1, 1, none⟩ = some (.slice ma ms.length mc) := by rw [← hsz]; exact q1.cell 1
            have fk : W.frozen? ⟨gh + 1, 1, none⟩ = false := by rw [← hsz]; exact q1.free 1
            rw [hsz] at q2
            have hN : ∀ u, JY w2 (.slice sa ss.length sc) (.slice ma ms.length mc) ss ms ⟨nm, y1, y2 - 2, y3⟩ 3 (W.setCell ⟨gh + 1, 1, none⟩ (.slice b2 (ms.length + 1) d2)) (upd vals 2 u) := fun u => ⟨b2, d2, q2⟩
            clear q1 q2
            unfold Oper.wp
            simp [go_sem, ck, fk]
            first | exact hN _ | exact ⟨undef, hN _⟩ | exact ⟨_, rfl, hN _⟩
          · intro W vals hJ
            obtain ⟨b2, d2, hrs3⟩ := hJ
            simp only [putAll, List.map_cons, List.map_nil, Job.val, Act.put, pA, pB, pC]
            have HRS4 : Hid (RO w2 W (.slice sa ss.length sc) (.slice b2 (ms ++ [(⟨nm, y1, y2 - 2, y3⟩ : Sm)]).length d2) ss (ms ++ [⟨nm, y1, y2 - 2, y3⟩])) := by rw [HL3.out]; exact hrs3
            clear hrs3 hJ0 HY1 HY2 HY3 r2 r3 r4 r5 h0 h1 u2 u3'
            go_wp2_with fail
            go_roundw
            case rel => exact ⟨q + 1, b2, d2, _, by go_num, by omega, hidden (by rw [HL3.out, hml.out]), HRS4, HREC, HLM⟩
            case measure => simp [intOf]; omega
        · have hi2' : ¬ (q : Int) < (Mn : Int) := by omega
          have hqM : q = Mn := by omega
          have HPARS : Hid (parse l = some (ss.map Sp.s, ms)) := by
            show _ = _
            rw [HSS.out, hrec.out, hqM, Nat.sub_self, rdSyms, List.append_nil]
          have hml12 : ms.length ≤ 12 := by have := hml.out; omega
          have hssl : ss.length ≤ 8 := by have := HSL.out; omega
          have hr1 := hro.out
          have o0 : wr.cell? ⟨gh + 1, 0, none⟩ = some (.slice sa ss.length sc) := by rw [← hsz]; exact hr1.obj.cell 0
          have o1 : wr.cell? ⟨gh + 1, 1, none⟩ = some (.slice ma ms.length mc) := by rw [← hsz]; exact hr1.obj.cell 1
          have HOV := hidden (objectValid'_any wr wr.heap.size sa ma sc mc ss.length ms.length ss ms rfl rfl hr1.secs.sects (syms_of_own hr1.syms) (Nat.le_refl _) (by omega) (by omega) HLN.out hlens.out)
          obtain ⟨vk, hvk⟩ : ∃ z, objOk (ss.map Sp.s) ms = z := ⟨_, rfl⟩
          rw [hvk] at HOV
          have HVK := hidden hvk
          clear hvk hrec hqM h0 hbw1 hr1
          go_wp2_with fail
          refine HOV.out.mono ?_
          clear HOV o0 o1
          rintro e w5 ⟨rfl, hb5⟩
          have hro5 := hro.out.only hb5
          have hrw := HR2.out.below hro5.below (by omega)
          have c0 : w5.cell? ⟨w.heap.size, 0, none⟩ = some (.slice none 0 0) := hrw.cell 0
          have c1 : w5.cell? ⟨w.heap.size, 1, none⟩ = some (.slice none 0 0) := hrw.cell 1
          have f0 := hrw.free 0
          have f1 := hrw.free 1
          have o0 : w5.cell? ⟨gh + 1, 0, none⟩ = some (.slice sa ss.length sc) := by rw [← hsz]; exact hro5.obj.cell 0
          have o1 : w5.cell? ⟨gh + 1, 1, none⟩ = some (.slice ma ms.length mc) := by rw [← hsz]; exact hro5.obj.cell 1
          have HRW := hidden hrw
          have HBX := hidden (HOW.out _ hro5.below)
          clear hrw
          rcases vk with _ | _
          · have HRN : Hid (rd l = none) := by
              show _ = _
              unfold rd
              rw [HPARS.out]
              simp only [HVK.out, Bool.false_and, Bool.false_eq_true, if_false]
            clear hro5
            go_wp2_with fail
            have HFN : Has ((w5.setCell ⟨w.heap.size, 0, none⟩ (.slice none 0 0)).setCell ⟨w.heap.size, 1, none⟩ (.slice none 0 0)) w.heap.size 26 #[.slice none 0 0, .slice none 0 0] := (HRW.out.put 0 _).put 1 _
            have HGW : w5.grownBy ((w5.setCell ⟨w.heap.size, 0, none⟩ (.slice none 0 0)).setCell ⟨w.heap.size, 1, none⟩ (.slice none 0 0)) (some w.heap.size) := only_trans (only_put' (g := w.heap.size) 0 _) (only_put' 1 _)
            refine bodyPost_ret (results_cell_row3h rfl _ _ w.heap.size 26 #[.slice none 0 0, .slice none 0 0] (0, 0) _ rfl HFN Tryz.underlying26 rfl (by kernel_rfl)) rfl ?_
            exact ⟨HBX.out.grown HGW HBX.out.size (by intro q hq; injection hq with hq; omega), .inl ⟨HRN.out, rfl⟩⟩
          · have HWO := hidden (writeObject'_row w5 w5.heap.size sa ma sc mc ss.length ms.length ss ms rfl rfl hro5.secs.sects (syms_of_own hro5.syms) (Nat.le_refl _) (by omega) (by omega) HLN.out hlens.out)
            obtain ⟨L, hL⟩ : ∃ z, writeObj ss ms = z := ⟨_, rfl⟩
            have hLs : L.length ≤ 2000 := by rw [← hL]; exact writeObj_short ss ms
            have HLW : Hid (∀ x ∈ L, (Lit.int .u8 x).wf = true) := by rw [← hL]; exact writeObj_u8 ss ms hro5.secs.wf
            rw [hL] at HWO
            have HL := hidden hL
            have HRO5 := hidden hro5
            clear hL hro5
            go_wp2_with fail
            refine HWO.out.mono ?_
            clear HWO c0 c1 f0 f1 o0 o1 HRW HBX
            rintro e w6 ⟨v, rfl, hrow, hb6⟩
            obtain ⟨va, vc, rfl, -, -, hvi⟩ := ints_of_own3 hrow HLW.out
            have hro6 := HRO5.out.only hb6
            have HSM := hidden (l7Same_any w6 w6.heap.size B va (some ⟨b, off, none⟩) vc cap L.length n L l rfl HNL.out hvi (HI.out w6 (HOW.out _ hro6.below)) (by omega))
            obtain ⟨dk, hdk⟩ : ∃ z, decide (L = l) = z := ⟨_, rfl⟩
            rw [hdk] at HSM
            have HDK := hidden hdk
            obtain ⟨Ln, hLn⟩ : ∃ z, L.length = z := ⟨_, rfl⟩
            rw [hLn] at HSM
            try rw [hLn]
            have HRO6 := hidden hro6
            clear hrow hvi hdk hb6 hro6 hLn HRO5
            go_wp2_with fail
            refine HSM.out.mono ?_
            clear HSM
            rintro e w7 ⟨rfl, m7, hw7⟩
            have hb7 : Below w6.heap.size w6 w7 := by rw [hw7]; exact below_drewN (Below.refl _ _) m7
            have hro7 := HRO6.out.only hb7
            clear hw7 hb7 HRO6
            have hrw := HR2.out.below hro7.below (by omega)
            have c0 : w7.cell? ⟨w.heap.size, 0, none⟩ = some (.slice none 0 0) := hrw.cell 0
            have c1 : w7.cell? ⟨w.heap.size, 1, none⟩ = some (.slice none 0 0) := hrw.cell 1
            have f0 := hrw.free 0
            have f1 := hrw.free 1
            have o0 : w7.cell? ⟨gh + 1, 0, none⟩ = some (.slice sa ss.length sc) := by rw [← hsz]; exact hro7.obj.cell 0
            have o1 : w7.cell? ⟨gh + 1, 1, none⟩ = some (.slice ma ms.length mc) := by rw [← hsz]; exact hro7.obj.cell 1
            have HRW := hidden hrw
            have HBX := hidden (HOW.out _ hro7.below)
            clear hrw
            rcases dk with _ | _
            · have HRN : Hid (rd l = none) := by
                show _ = _
                have hne : ¬ L = l := of_decide_eq_false HDK.out
                unfold rd
                rw [HPARS.out]
                simp only [HVK.out, Bool.true_and]
                rw [if_neg]
                rw [decide_eq_true_eq, ← writeObj_wobj, HL.out]
                exact hne
              clear hro7
              go_wp2_with fail
              have HFN : Has ((w7.setCell ⟨w.heap.size, 0, none⟩ (.slice none 0 0)).setCell ⟨w.heap.size, 1, none⟩ (.slice none 0 0)) w.heap.size 26 #[.slice none 0 0, .slice none 0 0] := (HRW.out.put 0 _).put 1 _
              have HGW : w7.grownBy ((w7.setCell ⟨w.heap.size, 0, none⟩ (.slice none 0 0)).setCell ⟨w.heap.size, 1, none⟩ (.slice none 0 0)) (some w.heap.size) := only_trans (only_put' (g := w.heap.size) 0 _) (only_put' 1 _)
              refine bodyPost_ret (results_cell_row3h rfl _ _ w.heap.size 26 #[.slice none 0 0, .slice none 0 0] (0, 0) _ rfl HFN Tryz.underlying26 rfl (by kernel_rfl)) rfl ?_
              exact ⟨HBX.out.grown HGW HBX.out.size (by intro q hq; injection hq with hq; omega), .inl ⟨HRN.out, rfl⟩⟩
            · have HRY : Hid (rd l = some (ss.map Sp.s, ms)) := by
                show _ = _
                have he : L = l := of_decide_eq_true HDK.out
                unfold rd
                rw [HPARS.out]
                simp only [HVK.out, Bool.true_and]
                rw [if_pos]
                rw [decide_eq_true_eq, ← writeObj_wobj, HL.out]
                exact he
              have HRO7 := hidden hro7
              clear hro7
              go_wp2_with fail
              have HFN : Has ((w7.setCell ⟨w.heap.size, 0, none⟩ (.slice sa ss.length sc)).setCell ⟨w.heap.size, 1, none⟩ (.slice ma ms.length mc)) w.heap.size 26 #[.slice sa ss.length sc, .slice ma ms.length mc] := (HRW.out.put 0 _).put 1 _
              have HGW : w7.grownBy ((w7.setCell ⟨w.heap.size, 0, none⟩ (.slice sa ss.length sc)).setCell ⟨w.heap.size, 1, none⟩ (.slice ma ms.length mc)) (some w.heap.size) := only_trans (only_put' (g := w.heap.size) 0 _) (only_put' 1 _)
              refine bodyPost_ret (results_cell_row3h rfl _ _ w.heap.size 26 #[.slice sa ss.length sc, .slice ma ms.length mc] (0, 0) _ rfl HFN Tryz.underlying26 rfl (by kernel_rfl)) rfl ?_
              refine ⟨HBX.out.grown HGW HBX.out.size (by intro q hq; injection hq with hq; omega), .inr ⟨ss, ms, sa, ma, sc, mc, HRY.out, rfl, ?_, ?_⟩⟩
              · exact (HRO7.out.secs.low (by omega) HGW).lower (by omega)
              · exact row_lower (World.ownsRow.kept HRO7.out.syms HGW (row_high HRO7.out.syms (by omega))) (by omega)

import Derived.Test.YtjcfjpoodahlfaaGreatDoorWrP
import Derived.Deep.CutBlock
namespace Go.Proofs.YtjcfjpoodahlfaaGreatDoor
open Go.RowKit
set_option maxRecDepth 100000 in
set_option maxHeartbeats 8000000 in
theorem writeObject'_at (w : World) (B : Nat) (a1 a2 : Option Addr) (c1 c2 n m : Nat) (l : List Sp) (ms : List Sm) (hn : n = l.length) (hm : m = ms.length) (h1 : Sects w B a1 l) (h2 : Syms w B a2 ms) (hB : B ≤ w.heap.size) (hlen : n ≤ 9223372036854775807) (hlem : m ≤ 9223372036854775807)
    (hl : ∀ y ∈ l, y.s.lens) (hs : ∀ x ∈ ms, x.name.size ≤ maxLen) :
    Calls Tryz.prog 9 #[.agg #[.slice a1 n c1, .slice a2 m c2]] w fun e w' => ∃ v, e = .returned v ∧ v ≠ .slice none 0 0 ∧ RowI w' w.heap.size v (writeObj l ms).length (writeObj l ms) ∧ Below w.heap.size w w' := by
  have HOB := hidden (fun (W : World) (hW : Below w.heap.size w W) => objectValid'_any W B a1 a2 c1 c2 n m l ms hn hm (h1.below (hW.mono hB)) (h2.below (hW.mono hB)) (Nat.le_trans hB hW.size) hlen hlem hl hs)
  obtain ⟨ok, hok⟩ : ∃ ok, objOk (l.map Sp.s) ms = ok := ⟨_, rfl⟩
  rw [hok] at HOB
  have HOK := hidden hok
  have HN := hidden hn
  have HM := hidden hm
  have H1 := hidden h1
  have H2 := hidden h2
  have HL := hidden hl
  have HS := hidden hs
  have HB := hidden hB
  obtain ⟨R, hR⟩ : ∃ R, writeObj l ms = R := ⟨_, rfl⟩
  have HR := hidden hR
  rw [hR]
  clear hok hn hm h1 h2 hl hs hR
  go_enter Tryz.func9, Tryz.ntmps9
  obtain ⟨X, hX⟩ : ∃ X : World, w.alloc (.cells #[.slice a1 n c1, .slice a2 m c2] 26) = X := ⟨_, rfl⟩
  have hb : Below w.heap.size w X := by rw [← hX]; exact (Below.refl _ _).alloc (Nat.le_refl _) _
  have hx : Has X w.heap.size 26 #[.slice a1 n c1, .slice a2 m c2] := by rw [← hX]; exact Has.new _ _ _
  have hXs : X.heap.size = w.heap.size + 1 := by rw [← hX]; simp
  have HX := hidden hX
  have HCX : Hid (∀ W, Below X.heap.size X W → W.cell? ⟨w.heap.size, 0, none⟩ = some (.slice a1 n c1) ∧ W.cell? ⟨w.heap.size, 1, none⟩ = some (.slice a2 m c2)) := fun W hW => ⟨(hW.cell (by show w.heap.size < _; omega)).trans (hx.cell 0), (hW.cell (by show w.heap.size < _; omega)).trans (hx.cell 1)⟩
  clear hX hx
  go_wp2_with fail
  rw [HX.out]
  refine (HOB.out X hb).mono ?_
  clear HOB
  rintro e w2 ⟨rfl, hb2⟩
  have hB2 := hb.trans (hb2.mono hb.size)
  have c0 := (HCX.out w2 hb2).1
  have c1' := (HCX.out w2 hb2).2
  have hs2 : w.heap.size < w2.heap.size := by have := hb2.size; omega
  rcases ok with _ | _
  · have HF : Hid (R = []) := by show _ = _; rw [← HR.out]; unfold writeObj; rw [HOK.out]; rfl
    clear c0 c1' HCX
    go_wp2_with fail
    go_ret
    rw [HF.out]
    exact ⟨_, rfl, by simp, World.ownsRow_lit (base := w.heap.size) (e := 5) (size := 1) w2 #[] 0 (by omega) (by unfold maxLen; omega) rfl, hB2.alloc hB2.size _⟩
  have hT0 := objOk_told HOK.out
  have HT := hidden hT0
  have hn8 : n ≤ 8 := by rw [HN.out]; exact hT0.secs
  have hm12 : m ≤ 12 := by rw [HM.out]; exact hT0.syms
  have hsec := hidden (fun y hy => sect_parts (hT0.sec y hy))
  obtain ⟨F, hF⟩ : ∃ F, manyFix l = F := ⟨_, rfl⟩
  obtain ⟨TT, hTT⟩ : ∃ TT, nameTab (allNames l ms) = TT := ⟨_, rfl⟩
  obtain ⟨K, hK⟩ : ∃ K, TT.length = K := ⟨_, rfl⟩
  have hK4 : 1 ≤ K ∧ K ≤ 400 := by rw [← hK, ← hTT]; exact tab_bounds hT0
  have hnl : (allNames l ms).length = n + m := by unfold allNames; rw [List.length_append, List.length_map, List.length_map, ← HN.out, ← HM.out]
  have hns : ∀ x ∈ allNames l ms, x.size ≤ maxLen := fun x hx => by
    unfold allNames at hx
    rcases List.mem_append.1 hx with h | h
    · obtain ⟨y, hy, rfl⟩ := List.mem_map.1 h; exact (HL.out y hy).1
    · obtain ⟨y, hy, rfl⟩ := List.mem_map.1 h; exact HS.out y hy
  obtain ⟨P0, hP0⟩ : ∃ P0, putHd (headOf l ms TT) = P0 := ⟨_, rfl⟩
  have hP10 : P0.length = 10 := by rw [← hP0, ← hTT]; unfold putHd; rw [if_pos (head_ok hT0)]; rfl
  have HPH : Hid (∀ W, Calls Tryz.prog 34 #[.agg #[.int .i64 n, .int .i64 m, .int .i64 F, .int .i64 K]] W fun e w' => ∃ v, e = .returned v ∧ RowI w' W.heap.size v 10 P0 ∧ Below W.heap.size W w') := fun W => by
    have h := putHeader'_row W (headOf l ms TT)
    rw [hP0, hP10] at h
    have e : (headOf l ms TT).agg = .agg #[.int .i64 n, .int .i64 m, .int .i64 F, .int .i64 K] := by
      rw [HN.out, HM.out, ← hF, ← hK]; rfl
    rw [e] at h
    exact h.mono fun e w' ⟨v, he, _, hr, hb⟩ => ⟨v, he, hr, hb⟩
  have HRR : Hid (R = P0 ++ (l.flatMap (secBytes TT) ++ (ms.flatMap (symBytes TT) ++ ((l.flatMap fun y => y.s.fixs.flatMap fixBytes) ++ (TT ++ l.flatMap fun y => y.s.bytes))))) := by
    show _ = _
    rw [← HR.out]; unfold writeObj; rw [HOK.out, hTT, hP0]; rfl
  have hNM := l6Names_any w2 B a1 a2 c1 c2 n m l ms HN.out HM.out (H1.out.below (hB2.mono HB.out)) (H2.out.below (hB2.mono HB.out)) (Nat.le_trans HB.out hB2.size) (by omega) (by omega)
  have HNM := hidden hNM
  have HNL := hidden hnl
  have HNS := hidden hns
  have HTT := hidden hTT
  have HK := hidden hK
  have HFF := hidden hF
  clear hNM hnl hns hP0 hT0 HR
  go_wp2_with fail
  refine HNM.out.mono ?_
  clear HNM
  rintro e w3 ⟨nv, rfl, hnrow, hb3⟩
  have hB3 := hB2.trans (hb3.mono hB2.size)
  have hnrow' : w3.ownsRow w2.heap.size 9 1 nv ((allNames l ms).map Value.string).length ((allNames l ms).map Value.string) := by rw [List.length_map, HNL.out]; exact hnrow
  obtain ⟨va, vc, hnv, _, hvv⟩ := vals_of_own hnrow'
  rw [List.length_map, HNL.out] at hnv
  subst hnv
  have hNT := nameTable'_any w3 w3.heap.size va vc (allNames l ms) hvv (Nat.le_refl _) (by rw [HNL.out]; omega) HNS.out
  rw [HNL.out, HTT.out] at hNT
  unfold Tabled at hNT
  rw [HK.out] at hNT
  have HNT := hidden hNT
  clear hNT hvv hnrow hnrow' HNL HNS hTT hK hF
  go_wp2_with fail
  refine HNT.out.mono ?_
  clear HNT
  rintro e wT ⟨ta, tc, rfl, htc, htm, hti, hbT⟩
  have hBT : Below w.heap.size w wT := hB3.trans (hbT.mono hB3.size)
  have hb2T : Below w2.heap.size w2 wT := hb3.trans (hbT.mono hb3.size)
  have hsT : w2.heap.size ≤ wT.heap.size := hb2T.size
  have hbXT : Below X.heap.size X wT := hb2.trans (hb2T.mono hb2.size)
  have HC : Hid (∀ W, Below wT.heap.size wT W → W.cell? ⟨w.heap.size, 0, none⟩ = some (.slice a1 n c1) ∧ W.cell? ⟨w.heap.size, 1, none⟩ = some (.slice a2 m c2)) := fun W hW => HCX.out W (hbXT.trans (hW.mono hbXT.size))
  have HBT := hidden hBT
  have HOW : Hid (∀ W, Below wT.heap.size wT W → Below w.heap.size w W) := fun W hW => hBT.trans (hW.mono hBT.size)
  have HTI : Hid (∀ W, Below wT.heap.size wT W → Ints W .u8 wT.heap.size ta TT) := fun W hW => hti.below hW
  have HFX := hidden (fun (W : World) (hW : Below wT.heap.size wT W) => by
    have := l6Fixups_any W B a1 a2 c1 c2 n m l HN.out (H1.out.below ((HOW.out W hW).mono HB.out)) (Nat.le_trans HB.out (HOW.out W hW).size) (by omega) (fun y hy => by have := (hsec.out y hy).2.2.1; omega)
    rw [HFF.out] at this
    exact this : ∀ (W : World), Below wT.heap.size wT W → Calls Tryz.prog 35 #[.agg #[.slice a1 n c1, .slice a2 m c2]] W fun e w' => e = .returned (.int .i64 F) ∧ Below W.heap.size W w')
  have HPL : Hid (∀ W, Below wT.heap.size wT W → ∀ s : ByteArray, s.size ≤ maxLen → Calls Tryz.prog 37 #[.slice ta K tc, .string s] W fun e w' => e = .returned (.int .i64 (placeIn TT s)) ∧ W = w') := fun W hW s hs => by
    have := placeOf'_any W wT.heap.size ta tc TT (HTI.out W hW) (by rw [HK.out]; exact htc) (by unfold maxLen at htm; omega) s hs
    rw [HK.out] at this
    unfold placeIn
    rw [HK.out]
    exact this
  have HPB : Hid (∀ s ∈ allNames l ms, 0 ≤ placeIn TT s ∧ placeIn TT s < 65536) := fun s hs => by have := place_bounds HT.out hs; rwa [HTT.out] at this
  have HTC := hidden htc
  clear hti hbT hb3 hB3 hb2 hb2T hbXT hB2 c0 c1' HCX htc htm
  go_upto_region 4 with fail
  refine wp_region_chain (m := 3) (js := [.quiet (.pointer (some ⟨w.heap.size, 0, none⟩)) 3, .quiet (.slice a1 n c1) 3, .quiet (.int .i64 n) 3, .quiet (.pointer (some ⟨w.heap.size, 1, none⟩)) 3, .quiet (.slice a2 m c2) 3, .quiet (.int .i64 m) 3, .quiet (.agg #[.slice a1 n c1, .slice a2 m c2]) 3, .chain 0, .quiet (.slice ta K tc) 3, .quiet (.int .i64 K) 3, .quiet (.agg #[.int .i64 n, .int .i64 m, .int .i64 F, .int .i64 K]) 3, .chain 1, .chain 2]) (by kernel_rfl) (JH wT F 10 P0) (by kernel_rfl) (by kernel_rfl) ⟨fun _ => .int .i64 F, (⟨(Below.refl _ _).drew, rfl, fun h => absurd h (by decide), fun h => absurd h (by decide)⟩ : JH wT F 10 P0 0 wT.drew fun _ => .int .i64 F)⟩ (fun vals => ?_) ?_
  · show SeqW _ _ _ _ _ _ _
    refine ⟨fun kk hkk W hW => ?_, ?_⟩
    · unfold Oper.wp
      simp [go_sem]
      try exact ⟨_, rfl, rfl⟩
    simp only [Act.put, pA, pB, pC]
    refine ⟨fun kk hkk W hW => ?_, ?_⟩
    · have q := (HC.out W hW.below).1
      unfold Oper.wp
      simp [go_sem, q]
      try exact ⟨_, rfl, rfl⟩
    simp only [Act.put, pA, pB, pC]
    iterate 2
      refine ⟨fun kk hkk W hW => ?_, ?_⟩
      · unfold Oper.wp
        simp [go_sem]
        try exact ⟨_, rfl, rfl⟩
      simp only [Act.put, pA, pB, pC]
    refine ⟨fun kk hkk W hW => ?_, ?_⟩
    · have q := (HC.out W hW.below).2
      unfold Oper.wp
      simp [go_sem, q]
      try exact ⟨_, rfl, rfl⟩
    simp only [Act.put, pA, pB, pC]
    refine ⟨fun kk hkk W hW => ?_, ?_⟩
    · unfold Oper.wp
      simp [go_sem]
      try exact ⟨_, rfl, rfl⟩
    simp only [Act.put, pA, pB, pC]
    refine ⟨fun kk hkk W hW => ?_, ?_⟩
    · have q := (HC.out W hW.below).1
      have q' := (HC.out W hW.below).2
      unfold Oper.wp
      simp [go_sem, q, q']
      try exact ⟨_, rfl, rfl⟩
    simp only [Act.put, pA, pB, pC]
    refine ⟨fun W hW => ?_, ?_⟩
    · unfold Oper.wp
      simp [go_sem]
      refine (HFX.out W hW.below).mono ?_
      rintro e w' ⟨rfl, hb⟩
      have hN : JH wT F 10 P0 1 w' (upd vals 0 (.int .i64 F)) := ⟨hW.below.trans (hb.mono hW.below.size), rfl, fun h => absurd h (by decide), fun h => absurd h (by decide)⟩
      first | exact hN | exact ⟨_, rfl, hN⟩
    simp only [Act.put, pA, pB, pC]
    iterate 2
      refine ⟨fun kk hkk W hW => ?_, ?_⟩
      · unfold Oper.wp
        simp [go_sem]
        try exact ⟨_, rfl, rfl⟩
      simp only [Act.put, pA, pB, pC]
    refine ⟨fun kk hkk W hW => ?_, ?_⟩
    · have q := hW.fix
      unfold Oper.wp
      simp [go_sem, q]
      try exact ⟨_, rfl, rfl⟩
    simp only [Act.put, pA, pB, pC]
    refine ⟨fun W hW => ?_, ?_⟩
    · unfold Oper.wp
      simp [go_sem]
      refine (HPH.out W).mono ?_
      rintro e w' ⟨v, rfl, hr, hb⟩
      have hN : JH wT F 10 P0 2 w' (upd vals 1 v) := ⟨hW.below.trans (hb.mono hW.below.size), hW.fix, fun _ => hr.lower hW.below.size, fun h => absurd h (by decide)⟩
      first | exact hN | exact ⟨_, rfl, hN⟩
    simp only [Act.put, pA, pB, pC]
    refine ⟨fun W hW => ?_, trivial⟩
    have hN : JH wT F 10 P0 3 W (upd vals 2 (vals 1)) := ⟨hW.below, hW.fix, fun h => absurd h (by decide), fun _ => hW.head rfl⟩
    unfold Oper.wp
    simp [go_sem]
    first | exact hN | exact ⟨_, rfl, hN⟩
  · intro W vals hJ
    have row0 := hJ.fin rfl
    obtain ⟨g0, cp0, hv0⟩ := row0.shape (by decide)
    have hbW := hJ.below
    simp only [putAll, List.map_cons, List.map_nil, Job.val, Act.put, pA, pB, pC]
    rw [hv0] at row0 ⊢
    have HROW0 := hidden row0
    clear hv0 hJ row0 HFX HPH
    go_wp2_with fail
    go_loopw [4, 5] (fun v i wr => ∃ (k g1 cp1 N1 : Nat) (L1 : List Int), v = .slice (some ⟨g1, 0, none⟩) N1 cp1 ∧ i = .int .i64 k ∧ k ≤ n ∧ Hid (RowI wr wT.heap.size (.slice (some ⟨g1, 0, none⟩) N1 cp1) N1 L1) ∧ Hid (L1 = P0 ++ (l.take k).flatMap (secBytes TT)) ∧ N1 ≤ 10 + 6 * k ∧ 0 < N1 ∧ Below wT.heap.size wT wr) (fun _ i _ => n - (intOf i).toNat)
    case atStart => exact ⟨0, g0, cp0, 10, P0, rfl, rfl, Nat.zero_le _, HROW0.out, hidden (by simp), by omega, by decide, hbW⟩
    case round =>
      obtain ⟨k, g1, cp1, N1, L1, rfl, rfl, hk, hrow1, hL, hN, hN01, hbw1⟩ := hrel
      clear HROW0 hbW
      have x0 := (HC.out wr hbw1).1
      by_cases hlt : k < n
      · have hilt : (k : Int) < (n : Int) := by omega
        have hkl : k < l.length := by rw [← HN.out]; exact hlt
        obtain ⟨b, off, rfl, hbB, hpp⟩ := (H1.out.below ((HOW.out wr hbw1).mono HB.out)).at_ hkl
        obtain ⟨y, hy⟩ : ∃ y, l[k] = y := ⟨_, rfl⟩
        rw [hy] at hpp
        obtain ⟨p0, p1, p2, p3, p4, p5⟩ := hpp
        have HY : Hid (l[k]? = some y) := by show _ = _; rw [List.getElem?_eq_getElem hkl, hy]
        have hym : y ∈ l := by rw [← hy]; exact List.getElem_mem hkl
        obtain ⟨-, s2, s3, s4, s5, -⟩ := hsec.out y hym
        obtain ⟨t1, t2, -⟩ := sect_bytes (HT.out.sec y hym)
        have hpb := HPB.out y.s.name (by unfold allNames; exact List.mem_append.2 (.inl (List.mem_map.2 ⟨y, hym, rfl⟩)))
        have hnm := (HL.out y hym).1
        have HSZ := hidden (fun (W : World) => sectionSize'_any W y.s y.a1 y.c1 y.a2 y.c2 (by omega))
        unfold Sx.agg at HSZ
        clear hy hkl hym hbB
        have hbA : Below wT.heap.size wT (wr.alloc (.cells #[.string y.s.name, .int .i64 y.s.kind, .int .i64 y.s.align, .slice y.a1 y.s.bytes.length y.c1, .int .i64 y.s.size, .slice y.a2 y.s.fixs.length y.c2] 48)) := hbw1.alloc hbw1.size _
        obtain ⟨p, hp⟩ : ∃ p, placeIn TT y.s.name = p := ⟨_, rfl⟩
        obtain ⟨nb, hnb⟩ : ∃ nb, putList p 2 = nb := ⟨_, rfl⟩
        rw [hp] at hpb
        have hnb2 : nb.length = 2 := by rw [← hnb]; exact put2_length hpb.1 hpb.2
        have hPL := HPL.out (wr.alloc (.cells #[.string y.s.name, .int .i64 y.s.kind, .int .i64 y.s.align, .slice y.a1 y.s.bytes.length y.c1, .int .i64 y.s.size, .slice y.a2 y.s.fixs.length y.c2] 48)) hbA y.s.name hnm
        rw [hp] at hPL
        have hPN := putNumber'_any p 2 (wr.alloc (.cells #[.string y.s.name, .int .i64 y.s.kind, .int .i64 y.s.align, .slice y.a1 y.s.bytes.length y.c1, .int .i64 y.s.size, .slice y.a2 y.s.fixs.length y.c2] 48))
        rw [hnb, hnb2] at hPN
        have HPLc := hidden hPL
        have HPNc := hidden hPN
        have HNB := hidden hnb2
        have HNBP := hidden (show putList (placeIn TT y.s.name) 2 = nb by rw [hp, hnb])
        have hcs := hidden (⟨hbA, Has.new _ _ _⟩ : CS wT (wr.alloc (.cells #[.string y.s.name, .int .i64 y.s.kind, .int .i64 y.s.align, .slice y.a1 y.s.bytes.length y.c1, .int .i64 y.s.size, .slice y.a2 y.s.fixs.length y.c2] 48)) wr.heap.size 48 #[.string y.s.name, .int .i64 y.s.kind, .int .i64 y.s.align, .slice y.a1 y.s.bytes.length y.c1, .int .i64 y.s.size, .slice y.a2 y.s.fixs.length y.c2])
        have hrowA := hidden (hrow1.out.alloc (.cells #[.string y.s.name, .int .i64 y.s.kind, .int .i64 y.s.align, .slice y.a1 y.s.bytes.length y.c1, .int .i64 y.s.size, .slice y.a2 y.s.fixs.length y.c2] 48))
        clear hp hnb hnb2 hPL hPN hpb
        go_wp2_with fail
        refine HPLc.out.mono ?_
        clear HPLc
        rintro e w' ⟨rfl, rfl⟩
        go_wp2_with fail
        refine HPNc.out.mono ?_
        clear HPNc
        rintro e w5 ⟨ad, c, rfl, hi5, hb5⟩
        have hcs5 := hidden (hcs.out.call hb5)
        have hrow5 := hidden (hrowA.out.only hb5)
        have hi5' := hidden hi5
        clear hcs hrowA hi5 hb5 hbA
        go_wp2_with (at_builtin; refine wpList_append_ints _ rfl _ _ rfl wT.heap.size _ N1 L1 rfl hrow5.out ad 2 c w5.heap.size nb HNB.out.symm rfl hi5'.out (by omega) hcs5.out.below.size ?_)
        intro v1 w6 hrow6 hg6
        have hcs6 := hidden (hcs5.out.app hrow5.out hg6 (by decide))
        have HROW6 := hidden hrow6
        clear hrow6 hg6 hcs5 hrow5 hi5'
        clear x0 p0 p1 p2 p3 p4 p5
        have u1 : IntKind.u8.wrap y.s.kind = y.s.kind := IntWalk.u8_in _ (by omega)
        have u2 : IntKind.u8.wrap y.s.align = y.s.align := IntWalk.u8_in _ (by omega)
        have u3 : IntKind.u8.wrap y.s.long = y.s.long := IntWalk.u8_in _ (by omega)
        have u4 : IntKind.u8.wrap (y.s.fixs.length : Int) = (y.s.fixs.length : Int) := IntWalk.u8_in _ (by omega)
        have HWF : Hid (∀ x ∈ [y.s.kind, y.s.align, y.s.long, (y.s.fixs.length : Int)], (Lit.int .u8 x).wf = true) := fun x hx => by simp only [List.mem_cons, List.not_mem_nil, or_false] at hx; rcases hx with rfl | rfl | rfl | rfl <;> exact wf_u8.mpr ⟨by omega, by omega⟩
        have hJ0 : Hid (JA wT wr.heap.size 48 #[.string y.s.name, .int .i64 y.s.kind, .int .i64 y.s.align, .slice y.a1 y.s.bytes.length y.c1, .int .i64 y.s.size, .slice y.a2 y.s.fixs.length y.c2] v1 (N1 + 2) (L1 ++ nb) y.s.long 4 [y.s.kind, y.s.align, y.s.long, (y.s.fixs.length : Int)] 0 w6.drew fun i => if i = 0 then .int .i64 y.s.long else .int .u8 y.s.long) := ⟨hcs6.out.drew, ⟨rfl, rfl⟩, fun _ => HROW6.out.drew, fun h => absurd h (by decide), fun h => absurd h (by decide), fun h => absurd h (by decide)⟩
        go_upto_region 10 with fail
        refine wp_region_chain (m := 5) (js := [.quiet v1 5, .quiet (.pointer (some ⟨wr.heap.size, 1, none⟩)) 5, .quiet (.int .i64 y.s.kind) 5, .quiet (.int .u8 y.s.kind) 5, .quiet (.pointer (some ⟨wr.heap.size, 2, none⟩)) 5, .quiet (.int .i64 y.s.align) 5, .quiet (.int .u8 y.s.align) 5, .quiet (.agg #[.string y.s.name, .int .i64 y.s.kind, .int .i64 y.s.align, .slice y.a1 y.s.bytes.length y.c1, .int .i64 y.s.size, .slice y.a2 y.s.fixs.length y.c2]) 5, .chain 0, .chain 1, .quiet (.pointer (some ⟨wr.heap.size, 5, none⟩)) 5, .quiet (.slice y.a2 y.s.fixs.length y.c2) 5, .quiet (.int .i64 y.s.fixs.length) 5, .quiet (.int .u8 y.s.fixs.length) 5, .chain 2, .chain 3, .chain 4]) (by kernel_rfl) (JA wT wr.heap.size 48 #[.string y.s.name, .int .i64 y.s.kind, .int .i64 y.s.align, .slice y.a1 y.s.bytes.length y.c1, .int .i64 y.s.size, .slice y.a2 y.s.fixs.length y.c2] v1 (N1 + 2) (L1 ++ nb) y.s.long 4 [y.s.kind, y.s.align, y.s.long, (y.s.fixs.length : Int)]) (by kernel_rfl) (by kernel_rfl) ⟨_, hJ0.out⟩ (fun vals => ?_) ?_
        · show SeqW _ _ _ _ _ _ _
          iterate 2
            refine ⟨fun kk hkk W hW => ?_, ?_⟩
            · unfold Oper.wp
              simp [go_sem]
              try exact ⟨_, rfl, rfl⟩
            simp only [Act.put, pA, pB, pC]
          refine ⟨fun kk hkk W hW => ?_, ?_⟩
          · have q : W.cell? ⟨wr.heap.size, 1, none⟩ = some (.int .i64 y.s.kind) := hW.cs.has.cell 1
            unfold Oper.wp
            simp [go_sem, q]
            try exact ⟨_, rfl, rfl⟩
          simp only [Act.put, pA, pB, pC]
          refine ⟨fun kk hkk W hW => ?_, ?_⟩
          · unfold Oper.wp
            simp [go_sem, u1]
            try exact ⟨_, rfl, rfl⟩
          simp only [Act.put, pA, pB, pC]
          refine ⟨fun kk hkk W hW => ?_, ?_⟩
          · unfold Oper.wp
            simp [go_sem]
            try exact ⟨_, rfl, rfl⟩
          simp only [Act.put, pA, pB, pC]
          refine ⟨fun kk hkk W hW => ?_, ?_⟩
          · have q : W.cell? ⟨wr.heap.size, 2, none⟩ = some (.int .i64 y.s.align) := hW.cs.has.cell 2
            unfold Oper.wp
            simp [go_sem, q]
            try exact ⟨_, rfl, rfl⟩
          simp only [Act.put, pA, pB, pC]
          refine ⟨fun kk hkk W hW => ?_, ?_⟩
          · unfold Oper.wp
            simp [go_sem, u2]
            try exact ⟨_, rfl, rfl⟩
          simp only [Act.put, pA, pB, pC]
          refine ⟨fun kk hkk W hW => ?_, ?_⟩
          · have q0 : W.cell? ⟨wr.heap.size, 0, none⟩ = some (.string y.s.name) := hW.cs.has.cell 0
            have q1 : W.cell? ⟨wr.heap.size, 1, none⟩ = some (.int .i64 y.s.kind) := hW.cs.has.cell 1
            have q2 : W.cell? ⟨wr.heap.size, 2, none⟩ = some (.int .i64 y.s.align) := hW.cs.has.cell 2
            have q3 : W.cell? ⟨wr.heap.size, 3, none⟩ = some (.slice y.a1 y.s.bytes.length y.c1) := hW.cs.has.cell 3
            have q4 : W.cell? ⟨wr.heap.size, 4, none⟩ = some (.int .i64 y.s.size) := hW.cs.has.cell 4
            have q5 : W.cell? ⟨wr.heap.size, 5, none⟩ = some (.slice y.a2 y.s.fixs.length y.c2) := hW.cs.has.cell 5
            unfold Oper.wp
            simp [go_sem, q0, q1, q2, q3, q4, q5]
            try exact ⟨_, rfl, rfl⟩
          simp only [Act.put, pA, pB, pC]
          refine ⟨fun W hW => ?_, ?_⟩
          · unfold Oper.wp
            simp [go_sem]
            refine (HSZ.out W).mono ?_
            rintro e w' ⟨rfl, hb⟩
            have hN : JA wT wr.heap.size 48 #[.string y.s.name, .int .i64 y.s.kind, .int .i64 y.s.align, .slice y.a1 y.s.bytes.length y.c1, .int .i64 y.s.size, .slice y.a2 y.s.fixs.length y.c2] v1 (N1 + 2) (L1 ++ nb) y.s.long 4 [y.s.kind, y.s.align, y.s.long, (y.s.fixs.length : Int)] 1 w' (upd vals 0 (.int .i64 y.s.long)) := ⟨hW.cs.call hb, ⟨rfl, hW.fix.2⟩, fun _ => (hW.row (by decide)).only hb, fun h => absurd h (by decide), fun h => absurd h (by decide), fun h => absurd h (by decide)⟩
            first | exact hN | exact ⟨_, rfl, hN⟩
          simp only [Act.put, pA, pB, pC]
          refine ⟨fun W hW => ?_, ?_⟩
          · have q := hW.fix.1
            have hN : JA wT wr.heap.size 48 #[.string y.s.name, .int .i64 y.s.kind, .int .i64 y.s.align, .slice y.a1 y.s.bytes.length y.c1, .int .i64 y.s.size, .slice y.a2 y.s.fixs.length y.c2] v1 (N1 + 2) (L1 ++ nb) y.s.long 4 [y.s.kind, y.s.align, y.s.long, (y.s.fixs.length : Int)] 2 W (upd vals 1 (.int .u8 y.s.long)) := ⟨hW.cs, ⟨q, rfl⟩, fun _ => hW.row (by decide), fun h => absurd h (by decide), fun h => absurd h (by decide), fun h => absurd h (by decide)⟩
            unfold Oper.wp
            simp [go_sem, q, u3]
            first | exact hN | exact ⟨_, rfl, hN⟩
          simp only [Act.put, pA, pB, pC]
          refine ⟨fun kk hkk W hW => ?_, ?_⟩
          · unfold Oper.wp
            simp [go_sem]
            try exact ⟨_, rfl, rfl⟩
          simp only [Act.put, pA, pB, pC]
          refine ⟨fun kk hkk W hW => ?_, ?_⟩
          · have q : W.cell? ⟨wr.heap.size, 5, none⟩ = some (.slice y.a2 y.s.fixs.length y.c2) := hW.cs.has.cell 5
            unfold Oper.wp
            simp [go_sem, q]
            try exact ⟨_, rfl, rfl⟩
          simp only [Act.put, pA, pB, pC]
          refine ⟨fun kk hkk W hW => ?_, ?_⟩
          · unfold Oper.wp
            simp [go_sem]
            try exact ⟨_, rfl, rfl⟩
          simp only [Act.put, pA, pB, pC]
          refine ⟨fun kk hkk W hW => ?_, ?_⟩
          · unfold Oper.wp
            simp [go_sem, u4]
            try exact ⟨_, rfl, rfl⟩
          simp only [Act.put, pA, pB, pC]
          refine ⟨fun W hW => ?_, ?_⟩
          · have hN : JA wT wr.heap.size 48 #[.string y.s.name, .int .i64 y.s.kind, .int .i64 y.s.align, .slice y.a1 y.s.bytes.length y.c1, .int .i64 y.s.size, .slice y.a2 y.s.fixs.length y.c2] v1 (N1 + 2) (L1 ++ nb) y.s.long 4 [y.s.kind, y.s.align, y.s.long, (y.s.fixs.length : Int)] 3 (W.alloc (.cells #[.int .u8 y.s.kind, .int .u8 y.s.align, .int .u8 y.s.long, .int .u8 y.s.fixs.length] 5)) (upd vals 2 (.slice (some ⟨W.heap.size, 0, none⟩) 4 4)) :=
              ⟨hW.cs.alloc _, hW.fix, fun _ => (hW.row (by decide)).alloc _, fun _ => ⟨W.heap.size, rfl, Ints.ofHas (Has.new _ _ _) rfl HWF.out (by simp)⟩, fun h => absurd h (by decide), fun h => absurd h (by decide)⟩
            have q := hW.fix.2
            unfold Oper.wp
            simp [go_sem, q]
            first | exact hN | exact ⟨_, rfl, hN⟩
          simp only [Act.put, pA, pB, pC]
          refine ⟨fun W hW => ?_, ?_⟩
          · obtain ⟨q, hv, hi⟩ := hW.sl rfl
            refine wp_append_ints _ _ rfl wT.heap.size v1 (N1 + 2) (L1 ++ nb) rfl (hW.row (by decide)) (some ⟨q, 0, none⟩) 4 4 W.heap.size [y.s.kind, y.s.align, y.s.long, (y.s.fixs.length : Int)] rfl hv hi (by omega) hW.cs.below.size (fun v' w' h1 h2 => ?_)
            have hN : JA wT wr.heap.size 48 #[.string y.s.name, .int .i64 y.s.kind, .int .i64 y.s.align, .slice y.a1 y.s.bytes.length y.c1, .int .i64 y.s.size, .slice y.a2 y.s.fixs.length y.c2] v1 (N1 + 2) (L1 ++ nb) y.s.long 4 [y.s.kind, y.s.align, y.s.long, (y.s.fixs.length : Int)] 4 w' (upd vals 3 v') := ⟨hW.cs.app (hW.row (by decide)) h2 (by decide), hW.fix, fun h => absurd h (by decide), fun h => absurd h (by decide), fun _ => h1, fun h => absurd h (by decide)⟩
            exact ⟨_, rfl, hN⟩
          simp only [Act.put, pA, pB, pC]
          refine ⟨fun W hW => ?_, trivial⟩
          have hN : JA wT wr.heap.size 48 #[.string y.s.name, .int .i64 y.s.kind, .int .i64 y.s.align, .slice y.a1 y.s.bytes.length y.c1, .int .i64 y.s.size, .slice y.a2 y.s.fixs.length y.c2] v1 (N1 + 2) (L1 ++ nb) y.s.long 4 [y.s.kind, y.s.align, y.s.long, (y.s.fixs.length : Int)] 5 W (upd vals 4 (vals 3)) := ⟨hW.cs, hW.fix, fun h => absurd h (by decide), fun h => absurd h (by decide), fun h => absurd h (by decide), fun _ => hW.app rfl⟩
          unfold Oper.wp
          simp [go_sem]
          first | exact hN | exact ⟨_, rfl, hN⟩
        · intro W vals hJ
          have row7 := hJ.fin rfl
          obtain ⟨ge, cpe, hve⟩ := row7.shape (by omega)
          have hbW := hJ.cs.below
          simp only [putAll, List.map_cons, List.map_nil, Job.val, Act.put, pA, pB, pC]
          rw [hve] at row7 ⊢
          obtain ⟨Ne, hNe⟩ : ∃ q, N1 + 2 + 4 = q := ⟨_, rfl⟩
          rw [hNe] at row7 ⊢
          have HROW7 := hidden row7
          have HEQ : Hid (L1 ++ nb ++ [y.s.kind, y.s.align, y.s.long, (y.s.fixs.length : Int)] = P0 ++ (l.take (k + 1)).flatMap (secBytes TT)) := by
            show _ = _
            rw [hL.out, flat_snoc _ HY.out, secBytes, HNBP.out]
            simp [List.append_assoc]
          have hNb : Ne ≤ 10 + 6 * (k + 1) := by omega
          have hNe0 : 0 < Ne := by omega
          clear hve hJ row7 hNe u1 u2 u3 u4 hrow1 HROW6 hcs6 hJ0 HSZ HWF
          go_wp2_with fail
          go_roundw
          case rel => exact ⟨k + 1, ge, cpe, Ne, _, rfl, by go_num, by omega, HROW7.out, HEQ, hNb, hNe0, hbW⟩
          case measure => simp [intOf]; omega
      · have hilt : ¬ (k : Int) < (n : Int) := by omega
        have HA1 : Hid (L1 = P0 ++ l.flatMap (secBytes TT)) := by
          show _ = _
          have e : l.take k = l := List.take_of_length_le (by rw [← HN.out]; omega)
          rw [hL.out, e]
        have hN1 : N1 ≤ 58 := by omega
        clear hL hlt hk hN
        go_wp2_with fail
        clear hilt x0
        go_loopw [4, 7] (fun v i wr => ∃ (k g2 cp2 N2 : Nat) (L2 : List Int), v = .slice (some ⟨g2, 0, none⟩) N2 cp2 ∧ i = .int .i64 k ∧ k ≤ m ∧ Hid (RowI wr wT.heap.size (.slice (some ⟨g2, 0, none⟩) N2 cp2) N2 L2) ∧ Hid (L2 = L1 ++ (ms.take k).flatMap (symBytes TT)) ∧ N2 ≤ 58 + 6 * k ∧ 0 < N2 ∧ Below wT.heap.size wT wr) (fun _ i _ => m - (intOf i).toNat)
        case atStart => exact ⟨0, g1, cp1, N1, L1, rfl, rfl, Nat.zero_le _, hrow1.out, hidden (by simp), by omega, hN01, hbw1⟩
        case round =>
          obtain ⟨k, g2, cp2, N2, L2, rfl, rfl, hk, hrow2, hL, hN, hN02, hbw2⟩ := hrel
          clear hrow1 hbw1
          have x0 := (HC.out wr hbw2).2
          by_cases hlt : k < m
          · have hilt : (k : Int) < (m : Int) := by omega
            have hkl : k < ms.length := by rw [← HM.out]; exact hlt
            obtain ⟨b, off, rfl, hbB, hpp⟩ := (H2.out.below ((HOW.out wr hbw2).mono HB.out)).at_ hkl
            obtain ⟨z, hz⟩ : ∃ z, ms[k] = z := ⟨_, rfl⟩
            rw [hz] at hpp
            obtain ⟨p0, p1, p2, p3⟩ := hpp
            have HY : Hid (ms[k]? = some z) := by show _ = _; rw [List.getElem?_eq_getElem hkl, hz]
            have hym : z ∈ ms := by rw [← hz]; exact List.getElem_mem hkl
            obtain ⟨t1, t2, t3⟩ := sym_bytes HT.out hym
            have hvb := sym_value HT.out hym
            have hpb := HPB.out z.name (by unfold allNames; exact List.mem_append.2 (.inr (List.mem_map.2 ⟨z, hym, rfl⟩)))
            have hnm := HS.out z hym
            clear hz hkl hym hbB
            have hbA : Below wT.heap.size wT (wr.alloc (.cells #[.string z.name, .int .i64 z.bind, .int .i64 z.loc, .int .i64 z.value] 51)) := hbw2.alloc hbw2.size _
            obtain ⟨p, hp⟩ : ∃ p, placeIn TT z.name = p := ⟨_, rfl⟩
            obtain ⟨nb, hnb⟩ : ∃ nb, putList p 2 = nb := ⟨_, rfl⟩
            rw [hp] at hpb
            have hnb2 : nb.length = 2 := by rw [← hnb]; exact put2_length hpb.1 hpb.2
            have hPL := HPL.out (wr.alloc (.cells #[.string z.name, .int .i64 z.bind, .int .i64 z.loc, .int .i64 z.value] 51)) hbA z.name hnm
            rw [hp] at hPL
            have hPN := putNumber'_any p 2 (wr.alloc (.cells #[.string z.name, .int .i64 z.bind, .int .i64 z.loc, .int .i64 z.value] 51))
            rw [hnb, hnb2] at hPN
            have HPLc := hidden hPL
            have HPNc := hidden hPN
            have HNB := hidden hnb2
            have HNBP := hidden (show putList (placeIn TT z.name) 2 = nb by rw [hp, hnb])
            have hcs := hidden (⟨hbA, Has.new _ _ _⟩ : CS wT (wr.alloc (.cells #[.string z.name, .int .i64 z.bind, .int .i64 z.loc, .int .i64 z.value] 51)) wr.heap.size 51 #[.string z.name, .int .i64 z.bind, .int .i64 z.loc, .int .i64 z.value])
            have hrowA := hidden (hrow2.out.alloc (.cells #[.string z.name, .int .i64 z.bind, .int .i64 z.loc, .int .i64 z.value] 51))
            clear hp hnb hnb2 hPL hPN hpb
            go_wp2_with fail
            refine HPLc.out.mono ?_
            clear HPLc
            rintro e w' ⟨rfl, rfl⟩
            go_wp2_with fail
            refine HPNc.out.mono ?_
            clear HPNc
            rintro e w5 ⟨ad, c, rfl, hi5, hb5⟩
            have hcs5 := hidden (hcs.out.call hb5)
            have hrow5 := hidden (hrowA.out.only hb5)
            have hi5' := hidden hi5
            clear hcs hrowA hi5 hb5 hbA
            go_wp2_with (at_builtin; refine wpList_append_ints _ rfl _ _ rfl wT.heap.size _ N2 L2 rfl hrow5.out ad 2 c w5.heap.size nb HNB.out.symm rfl hi5'.out (by omega) hcs5.out.below.size ?_)
            intro v1 w6 hrow6 hg6
            have hcs6 := hidden (hcs5.out.app hrow5.out hg6 (by decide))
            have HROW6 := hidden hrow6
            clear hrow6 hg6 hcs5 hrow5 hi5'
            clear x0 p0 p1 p2 p3
            obtain ⟨nb2, hnb2⟩ : ∃ q, putList z.value 2 = q := ⟨_, rfl⟩
            have hnb22 : nb2.length = 2 := by rw [← hnb2]; exact put2_length hvb.1 hvb.2
            have HPV : Hid (∀ W, Calls Tryz.prog 36 #[.int .i64 z.value, .int .i64 2] W fun e w' => ∃ ad c, e = .returned (.slice ad 2 c) ∧ Ints w' .u8 w'.heap.size ad nb2 ∧ Below W.heap.size W w') := fun W => by
              have h := putNumber'_any z.value 2 W
              rwa [hnb2, hnb22] at h
            have HNB2 : Hid (2 = nb2.length) := hnb22.symm
            have HNV := hidden hnb2
            clear hnb2 hnb22
            have u1 : IntKind.u8.wrap z.bind = z.bind := IntWalk.u8_in _ (by omega)
            have u2 : IntKind.i64.wrap (z.loc + 2) = z.loc + 2 := IntWalk.i64_in _ (by omega)
            have u3 : IntKind.u8.wrap (z.loc + 2) = z.loc + 2 := IntWalk.u8_in _ (by omega)
            have HWF : Hid (∀ x ∈ [z.bind, z.loc + 2], (Lit.int .u8 x).wf = true) := fun x hx => by simp only [List.mem_cons, List.not_mem_nil, or_false] at hx; rcases hx with rfl | rfl <;> exact wf_u8.mpr ⟨by omega, by omega⟩
            have hJ0 : Hid (JB wT wr.heap.size 51 #[.string z.name, .int .i64 z.bind, .int .i64 z.loc, .int .i64 z.value] v1 (N2 + 2) (L2 ++ nb) 2 [z.bind, z.loc + 2] nb2 0 w6.drew fun _ => undef) := ⟨hcs6.out.drew, fun _ => HROW6.out.drew, fun h => absurd h (by decide), fun h => absurd h.1 (by decide), fun h => absurd h (by decide), fun h => absurd h (by decide), fun h => absurd h (by decide)⟩
            go_upto_region 16 with fail
            refine wp_region_chain (m := 5) (js := [.quiet v1 5, .quiet (.pointer (some ⟨wr.heap.size, 1, none⟩)) 5, .quiet (.int .i64 z.bind) 5, .quiet (.int .u8 z.bind) 5, .quiet (.pointer (some ⟨wr.heap.size, 2, none⟩)) 5, .quiet (.int .i64 z.loc) 5, .quiet (.int .i64 (z.loc + 2)) 5, .quiet (.int .u8 (z.loc + 2)) 5, .chain 0, .chain 1, .quiet (.pointer (some ⟨wr.heap.size, 3, none⟩)) 5, .quiet (.int .i64 z.value) 5, .chain 2, .chain 3, .chain 4]) (by kernel_rfl) (JB wT wr.heap.size 51 #[.string z.name, .int .i64 z.bind, .int .i64 z.loc, .int .i64 z.value] v1 (N2 + 2) (L2 ++ nb) 2 [z.bind, z.loc + 2] nb2) (by kernel_rfl) (by kernel_rfl) ⟨_, hJ0.out⟩ (fun vals => ?_) ?_
            · show SeqW _ _ _ _ _ _ _
              iterate 2
                refine ⟨fun kk hkk W hW => ?_, ?_⟩
                · unfold Oper.wp
                  simp [go_sem]
                  try exact ⟨_, rfl, rfl⟩
                simp only [Act.put, pA, pB, pC]
              refine ⟨fun kk hkk W hW => ?_, ?_⟩
              · have q : W.cell? ⟨wr.heap.size, 1, none⟩ = some (.int .i64 z.bind) := hW.cs.has.cell 1
                unfold Oper.wp
                simp [go_sem, q]
                try exact ⟨_, rfl, rfl⟩
              simp only [Act.put, pA, pB, pC]
              refine ⟨fun kk hkk W hW => ?_, ?_⟩
              · unfold Oper.wp
                simp [go_sem, u1]
                try exact ⟨_, rfl, rfl⟩
              simp only [Act.put, pA, pB, pC]
              refine ⟨fun kk hkk W hW => ?_, ?_⟩
              · unfold Oper.wp
                simp [go_sem]
                try exact ⟨_, rfl, rfl⟩
              simp only [Act.put, pA, pB, pC]
              refine ⟨fun kk hkk W hW => ?_, ?_⟩
              · have q : W.cell? ⟨wr.heap.size, 2, none⟩ = some (.int .i64 z.loc) := hW.cs.has.cell 2
                unfold Oper.wp
                simp [go_sem, q]
                try exact ⟨_, rfl, rfl⟩
              simp only [Act.put, pA, pB, pC]
              refine ⟨fun kk hkk W hW => ?_, ?_⟩
              · unfold Oper.wp
                simp [go_sem, u2]
                try exact ⟨_, rfl, rfl⟩
              simp only [Act.put, pA, pB, pC]
              refine ⟨fun kk hkk W hW => ?_, ?_⟩
              · unfold Oper.wp
                simp [go_sem, u3]
                try exact ⟨_, rfl, rfl⟩
              simp only [Act.put, pA, pB, pC]
              refine ⟨fun W hW => ?_, ?_⟩
              · have hN : JB wT wr.heap.size 51 #[.string z.name, .int .i64 z.bind, .int .i64 z.loc, .int .i64 z.value] v1 (N2 + 2) (L2 ++ nb) 2 [z.bind, z.loc + 2] nb2 1 (W.alloc (.cells #[.int .u8 z.bind, .int .u8 (z.loc + 2)] 5)) (upd vals 0 (.slice (some ⟨W.heap.size, 0, none⟩) 2 2)) :=
                  ⟨hW.cs.alloc _, fun _ => (hW.row (by decide)).alloc _, fun _ => ⟨W.heap.size, rfl, Ints.ofHas (Has.new _ _ _) rfl HWF.out (by simp)⟩, fun h => absurd h.1 (by decide), fun h => absurd h (by decide), fun h => absurd h (by decide), fun h => absurd h (by decide)⟩
                unfold Oper.wp
                simp [go_sem]
                first | exact hN | exact ⟨_, rfl, hN⟩
              simp only [Act.put, pA, pB, pC]
              refine ⟨fun W hW => ?_, ?_⟩
              · obtain ⟨q, hv, hi⟩ := hW.sl rfl
                refine wp_append_ints _ _ rfl wT.heap.size v1 (N2 + 2) (L2 ++ nb) rfl (hW.row (by decide)) (some ⟨q, 0, none⟩) 2 2 W.heap.size [z.bind, z.loc + 2] rfl hv hi (by omega) hW.cs.below.size (fun v' w' h1 h2 => ?_)
                have hN : JB wT wr.heap.size 51 #[.string z.name, .int .i64 z.bind, .int .i64 z.loc, .int .i64 z.value] v1 (N2 + 2) (L2 ++ nb) 2 [z.bind, z.loc + 2] nb2 2 w' (upd vals 1 v') := ⟨hW.cs.app (hW.row (by decide)) h2 (by decide), fun h => absurd h (by decide), fun h => absurd h (by decide), fun _ => h1, fun h => absurd h (by decide), fun h => absurd h (by decide), fun h => absurd h (by decide)⟩
                exact ⟨_, rfl, hN⟩
              simp only [Act.put, pA, pB, pC]
              refine ⟨fun kk hkk W hW => ?_, ?_⟩
              · unfold Oper.wp
                simp [go_sem]
                try exact ⟨_, rfl, rfl⟩
              simp only [Act.put, pA, pB, pC]
              refine ⟨fun kk hkk W hW => ?_, ?_⟩
              · have q : W.cell? ⟨wr.heap.size, 3, none⟩ = some (.int .i64 z.value) := hW.cs.has.cell 3
                unfold Oper.wp
                simp [go_sem, q]
                try exact ⟨_, rfl, rfl⟩
              simp only [Act.put, pA, pB, pC]
              refine ⟨fun W hW => ?_, ?_⟩
              · unfold Oper.wp
                simp [go_sem]
                refine (HPV.out W).mono ?_
                rintro e w' ⟨ad, c, rfl, hi, hb⟩
                have hN : JB wT wr.heap.size 51 #[.string z.name, .int .i64 z.bind, .int .i64 z.loc, .int .i64 z.value] v1 (N2 + 2) (L2 ++ nb) 2 [z.bind, z.loc + 2] nb2 3 w' (upd vals 2 (.slice ad 2 c)) := ⟨hW.cs.call hb, fun h => absurd h (by decide), fun h => absurd h (by decide), fun _ => (hW.app ⟨by decide, by decide⟩).only hb, fun _ => ⟨ad, c, rfl, hi⟩, fun h => absurd h (by decide), fun h => absurd h (by decide)⟩
                first | exact hN | exact ⟨_, rfl, hN⟩
              simp only [Act.put, pA, pB, pC]
              refine ⟨fun W hW => ?_, ?_⟩
              · obtain ⟨ad, c, hv, hi⟩ := hW.num rfl
                refine wp_append_ints _ _ rfl wT.heap.size (vals 1) (N2 + 2 + 2) (L2 ++ nb ++ [z.bind, z.loc + 2]) rfl (hW.app ⟨by decide, by decide⟩) ad 2 c W.heap.size nb2 HNB2.out hv hi (by omega) hW.cs.below.size (fun v' w' h1 h2 => ?_)
                have hN : JB wT wr.heap.size 51 #[.string z.name, .int .i64 z.bind, .int .i64 z.loc, .int .i64 z.value] v1 (N2 + 2) (L2 ++ nb) 2 [z.bind, z.loc + 2] nb2 4 w' (upd vals 3 v') := ⟨hW.cs.app (hW.app ⟨by decide, by decide⟩) h2 (by decide), fun h => absurd h (by decide), fun h => absurd h (by decide), fun h => absurd h.2 (by decide), fun h => absurd h (by decide), fun _ => h1, fun h => absurd h (by decide)⟩
                exact ⟨_, rfl, hN⟩
              simp only [Act.put, pA, pB, pC]
              refine ⟨fun W hW => ?_, trivial⟩
              have hN : JB wT wr.heap.size 51 #[.string z.name, .int .i64 z.bind, .int .i64 z.loc, .int .i64 z.value] v1 (N2 + 2) (L2 ++ nb) 2 [z.bind, z.loc + 2] nb2 5 W (upd vals 4 (vals 3)) := ⟨hW.cs, fun h => absurd h (by decide), fun h => absurd h (by decide), fun h => absurd h.2 (by decide), fun h => absurd h (by decide), fun h => absurd h (by decide), fun _ => hW.app2 rfl⟩
              unfold Oper.wp
              simp [go_sem]
              first | exact hN | exact ⟨_, rfl, hN⟩
            · intro W vals hJ
              have row7 := hJ.fin rfl
              obtain ⟨ge, cpe, hve⟩ := row7.shape (by omega)
              have hbW := hJ.cs.below
              simp only [putAll, List.map_cons, List.map_nil, Job.val, Act.put, pA, pB, pC]
              rw [hve] at row7 ⊢
              obtain ⟨Ne, hNe⟩ : ∃ q, N2 + 2 + 2 + 2 = q := ⟨_, rfl⟩
              rw [hNe] at row7 ⊢
              have HROW7 := hidden row7
              have HEQ : Hid (L2 ++ nb ++ [z.bind, z.loc + 2] ++ nb2 = L1 ++ (ms.take (k + 1)).flatMap (symBytes TT)) := by
                show _ = _
                rw [hL.out, flat_snoc _ HY.out, symBytes, HNBP.out, HNV.out]
                simp [List.append_assoc]
              have hNb : Ne ≤ 58 + 6 * (k + 1) := by omega
              have hNe0 : 0 < Ne := by omega
              clear hve hJ row7 hNe u1 u2 u3 hrow2 HROW6 hcs6 hJ0 HPV HWF
              go_wp2_with fail
              go_roundw
              case rel => exact ⟨k + 1, ge, cpe, Ne, _, rfl, by go_num, by omega, HROW7.out, HEQ, hNb, hNe0, hbW⟩
              case measure => simp [intOf]; omega
          · have hilt : ¬ (k : Int) < (m : Int) := by omega
            have HA2 : Hid (L2 = L1 ++ ms.flatMap (symBytes TT)) := by
              show _ = _
              have e : ms.take k = ms := List.take_of_length_le (by rw [← HM.out]; omega)
              rw [hL.out, e]
            have hN1 : N2 ≤ 130 := by omega
            clear hL hlt hk hN
            go_wp2_with fail
            clear hilt x0
            go_loopw [4, 9] (fun v i wr => ∃ (k g cp N : Nat) (L : List Int), v = .slice (some ⟨g, 0, none⟩) N cp ∧ i = .int .i64 k ∧ k ≤ n ∧ Hid (RowI wr wT.heap.size (.slice (some ⟨g, 0, none⟩) N cp) N L) ∧ Hid (L = L2 ++ (l.take k).flatMap fun y => y.s.fixs.flatMap fixBytes) ∧ N ≤ 130 + 30 * k ∧ 0 < N ∧ Below wT.heap.size wT wr) (fun _ i _ => n - (intOf i).toNat)
            case atStart => exact ⟨0, g2, cp2, N2, L2, rfl, rfl, Nat.zero_le _, hrow2.out, hidden (by simp), by omega, hN02, hbw2⟩
            case round =>
              obtain ⟨k, go, cpo, No, Lo, rfl, rfl, hk, hrowo, hLo, hNo, hN0o, hbwo⟩ := hrel
              clear hrow2 hbw2
              have x0 := (HC.out wr hbwo).1
              by_cases hlt : k < n
              · have hilt : (k : Int) < (n : Int) := by omega
                have hkl : k < l.length := by rw [← HN.out]; exact hlt
                obtain ⟨y, hy⟩ : ∃ y, l[k] = y := ⟨_, rfl⟩
                have HY : Hid (l[k]? = some y) := by show _ = _; rw [List.getElem?_eq_getElem hkl, hy]
                have hym : y ∈ l := by rw [← hy]; exact List.getElem_mem hkl
                have HYM := hidden hym
                have hHP : Hid (∀ W, Below wT.heap.size wT W → ∃ b off, a1 = some ⟨b, off, none⟩ ∧ SecAt W b (off + k * 6) y) := fun W hW => by
                  obtain ⟨b, off, e, _, h⟩ := (H1.out.below ((HOW.out W hW).mono HB.out)).at_ hkl
                  rw [hy] at h
                  exact ⟨b, off, e, h⟩
                obtain ⟨-, -, s3, -, -, -⟩ := hsec.out y hym
                have hfb := hidden (sect_bytes (HT.out.sec y hym)).2.2
                obtain ⟨nf, hnf⟩ : ∃ q, y.s.fixs.length = q := ⟨_, rfl⟩
                rw [hnf] at s3
                have HNF := hidden hnf
                obtain ⟨b, off, rfl, -⟩ := hHP.out wr hbwo
                have hSA : Hid (∀ W, Below wT.heap.size wT W → W.cell? ⟨b, off + k * 6 + 5, none⟩ = some (.slice y.a2 nf y.c2)) := fun W hW => by
                  obtain ⟨b', off', e, _, _, _, _, _, h5⟩ := hHP.out W hW
                  cases e
                  rw [hnf] at h5; exact h5
                clear hy hkl hym hnf
                go_wp2_with fail
                go_loopw [4, 10] (fun v i wq => ∃ (j g cp N : Nat) (L : List Int), v = .slice (some ⟨g, 0, none⟩) N cp ∧ i = .int .i64 j ∧ j ≤ nf ∧ Hid (RowI wq wT.heap.size (.slice (some ⟨g, 0, none⟩) N cp) N L) ∧ Hid (L = Lo ++ (y.s.fixs.take j).flatMap fixBytes) ∧ N ≤ No + 5 * j ∧ 0 < N ∧ Below wT.heap.size wT wq) (fun _ i _ => nf - (intOf i).toNat)
                case atStart => exact ⟨0, go, cpo, No, Lo, rfl, rfl, Nat.zero_le _, hrowo.out, hidden (by simp), by omega, hN0o, hbwo⟩
                case round =>
                  obtain ⟨j, g, cp, N, L, rfl, rfl, hj, hrow, hL, hN, hN0, hbw⟩ := hrel
                  clear hrowo x0
                  have x0 := (HC.out _ hbw).1
                  have p5 := hSA.out _ hbw
                  by_cases hjl : j < nf
                  · have hjlt : (j : Int) < (nf : Int) := by omega
                    have hjf : j < y.s.fixs.length := by rw [HNF.out]; exact hjl
                    obtain ⟨fb, fo, hfa, hfbB, f0, f1, f2, f3⟩ := ((H1.out.fixs y HYM.out).below ((HOW.out _ hbw).mono HB.out)).at_ hjf
                    rw [hfa] at p5
                    obtain ⟨f, hf⟩ : ∃ f, y.s.fixs[j] = f := ⟨_, rfl⟩
                    rw [hf] at f0 f1 f2 f3
                    have HF : Hid (y.s.fixs[j]? = some f) := by show _ = _; rw [List.getElem?_eq_getElem hjf, hf]
                    obtain ⟨t1, t2, ⟨t3, t4⟩, t5, t6⟩ := hfb.out f (by rw [← hf]; exact List.getElem_mem hjf)
                    have hms : (ms.length : Int) ≤ 12 := by rw [← HM.out]; omega
                    clear hf hjf hfa hfbB
                    obtain ⟨nb2, hnb2⟩ : ∃ q, putList (f.add + 1000) 2 = q := ⟨_, rfl⟩
                    have hnb22 : nb2.length = 2 := by rw [← hnb2]; exact put2_length (by omega) (by omega)
                    have HPV : Hid (∀ W, Calls Tryz.prog 36 #[.int .i64 (f.add + 1000), .int .i64 2] W fun e w' => ∃ ad c, e = .returned (.slice ad 2 c) ∧ Ints w' .u8 w'.heap.size ad nb2 ∧ Below W.heap.size W w') := fun W => by
                      have h := putNumber'_any (f.add + 1000) 2 W
                      rwa [hnb2, hnb22] at h
                    have HNB2 : Hid (2 = nb2.length) := hnb22.symm
                    have HNV := hidden hnb2
                    clear hnb2 hnb22
                    have hcs := hidden (⟨hbw.alloc hbw.size _, Has.new _ _ _⟩ : CS wT (wr.alloc (.cells #[.int .i64 f.pl, .int .i64 f.kind, .int .i64 f.to, .int .i64 f.add] 65)) wr.heap.size 65 #[.int .i64 f.pl, .int .i64 f.kind, .int .i64 f.to, .int .i64 f.add])
                    have hrowA := hidden (hrow.out.alloc (.cells #[.int .i64 f.pl, .int .i64 f.kind, .int .i64 f.to, .int .i64 f.add] 65))
                    have u1 : IntKind.u8.wrap f.pl = f.pl := IntWalk.u8_in _ (by omega)
                    have u2 : IntKind.u8.wrap f.kind = f.kind := IntWalk.u8_in _ (by omega)
                    have u3 : IntKind.u8.wrap f.to = f.to := IntWalk.u8_in _ (by omega)
                    have u5 : IntKind.i64.wrap (f.add + 1000) = f.add + 1000 := IntWalk.i64_in _ (by omega)
                    have HWF : Hid (∀ x ∈ [f.pl, f.kind, f.to], (Lit.int .u8 x).wf = true) := fun x hx => by simp only [List.mem_cons, List.not_mem_nil, or_false] at hx; rcases hx with rfl | rfl | rfl <;> exact wf_u8.mpr ⟨by omega, by omega⟩
                    have hJ0 : Hid (JB wT wr.heap.size 65 #[.int .i64 f.pl, .int .i64 f.kind, .int .i64 f.to, .int .i64 f.add] (.slice (some ⟨g, 0, none⟩) N cp) N L 3 [f.pl, f.kind, f.to] nb2 0 (wr.alloc (.cells #[.int .i64 f.pl, .int .i64 f.kind, .int .i64 f.to, .int .i64 f.add] 65)).drew fun _ => undef) := ⟨hcs.out.drew, fun _ => hrowA.out.drew, fun h => absurd h (by decide), fun h => absurd h.1 (by decide), fun h => absurd h (by decide), fun h => absurd h (by decide), fun h => absurd h (by decide)⟩
                    go_upto_region 24 with fail
                    refine wp_region_chain (m := 5) (js := [.quiet (.slice (some ⟨g, 0, none⟩) N cp) 5, .quiet (.pointer (some ⟨wr.heap.size, 0, none⟩)) 5, .quiet (.int .i64 f.pl) 5, .quiet (.int .u8 f.pl) 5, .quiet (.pointer (some ⟨wr.heap.size, 1, none⟩)) 5, .quiet (.int .i64 f.kind) 5, .quiet (.int .u8 f.kind) 5, .quiet (.pointer (some ⟨wr.heap.size, 2, none⟩)) 5, .quiet (.int .i64 f.to) 5, .quiet (.int .u8 f.to) 5, .chain 0, .chain 1, .quiet (.pointer (some ⟨wr.heap.size, 3, none⟩)) 5, .quiet (.int .i64 f.add) 5, .quiet (.int .i64 (f.add + 1000)) 5, .chain 2, .chain 3, .chain 4]) (by kernel_rfl) (JB wT wr.heap.size 65 #[.int .i64 f.pl, .int .i64 f.kind, .int .i64 f.to, .int .i64 f.add] (.slice (some ⟨g, 0, none⟩) N cp) N L 3 [f.pl, f.kind, f.to] nb2) (by kernel_rfl) (by kernel_rfl) ⟨_, hJ0.out⟩ (fun vals => ?_) ?_
                    · show SeqW _ _ _ _ _ _ _
                      iterate 2
                        refine ⟨fun kk hkk W hW => ?_, ?_⟩
                        · unfold Oper.wp
                          simp [go_sem]
                          try exact ⟨_, rfl, rfl⟩
                        simp only [Act.put, pA, pB, pC]
                      refine ⟨fun kk hkk W hW => ?_, ?_⟩
                      · have q : W.cell? ⟨wr.heap.size, 0, none⟩ = some (.int .i64 f.pl) := hW.cs.has.cell 0
                        unfold Oper.wp
                        simp [go_sem, q]
                        try exact ⟨_, rfl, rfl⟩
                      simp only [Act.put, pA, pB, pC]
                      refine ⟨fun kk hkk W hW => ?_, ?_⟩
                      · unfold Oper.wp
                        simp [go_sem, u1]
                        try exact ⟨_, rfl, rfl⟩
                      simp only [Act.put, pA, pB, pC]
                      refine ⟨fun kk hkk W hW => ?_, ?_⟩
                      · unfold Oper.wp
                        simp [go_sem]
                        try exact ⟨_, rfl, rfl⟩
                      simp only [Act.put, pA, pB, pC]
                      refine ⟨fun kk hkk W hW => ?_, ?_⟩
                      · have q : W.cell? ⟨wr.heap.size, 1, none⟩ = some (.int .i64 f.kind) := hW.cs.has.cell 1
                        unfold Oper.wp
                        simp [go_sem, q]
                        try exact ⟨_, rfl, rfl⟩
                      simp only [Act.put, pA, pB, pC]
                      refine ⟨fun kk hkk W hW => ?_, ?_⟩
                      · unfold Oper.wp
                        simp [go_sem, u2]
                        try exact ⟨_, rfl, rfl⟩
                      simp only [Act.put, pA, pB, pC]
                      refine ⟨fun kk hkk W hW => ?_, ?_⟩
                      · unfold Oper.wp
                        simp [go_sem]
                        try exact ⟨_, rfl, rfl⟩
                      simp only [Act.put, pA, pB, pC]
                      refine ⟨fun kk hkk W hW => ?_, ?_⟩
                      · have q : W.cell? ⟨wr.heap.size, 2, none⟩ = some (.int .i64 f.to) := hW.cs.has.cell 2
                        unfold Oper.wp
                        simp [go_sem, q]
                        try exact ⟨_, rfl, rfl⟩
                      simp only [Act.put, pA, pB, pC]
                      refine ⟨fun kk hkk W hW => ?_, ?_⟩
                      · unfold Oper.wp
                        simp [go_sem, u3]
                        try exact ⟨_, rfl, rfl⟩
                      simp only [Act.put, pA, pB, pC]
                      refine ⟨fun W hW => ?_, ?_⟩
                      · have hN : JB wT wr.heap.size 65 #[.int .i64 f.pl, .int .i64 f.kind, .int .i64 f.to, .int .i64 f.add] (.slice (some ⟨g, 0, none⟩) N cp) N L 3 [f.pl, f.kind, f.to] nb2 1 (W.alloc (.cells #[.int .u8 f.pl, .int .u8 f.kind, .int .u8 f.to] 5)) (upd vals 0 (.slice (some ⟨W.heap.size, 0, none⟩) 3 3)) :=
                          ⟨hW.cs.alloc _, fun _ => (hW.row (by decide)).alloc _, fun _ => ⟨W.heap.size, rfl, Ints.ofHas (Has.new _ _ _) rfl HWF.out (by simp)⟩, fun h => absurd h.1 (by decide), fun h => absurd h (by decide), fun h => absurd h (by decide), fun h => absurd h (by decide)⟩
                        unfold Oper.wp
                        simp [go_sem]
                        first | exact hN | exact ⟨_, rfl, hN⟩
                      simp only [Act.put, pA, pB, pC]
                      refine ⟨fun W hW => ?_, ?_⟩
                      · obtain ⟨q, hv, hi⟩ := hW.sl rfl
                        refine wp_append_ints _ _ rfl wT.heap.size (.slice (some ⟨g, 0, none⟩) N cp) (N) (L) rfl (hW.row (by decide)) (some ⟨q, 0, none⟩) 3 3 W.heap.size [f.pl, f.kind, f.to] rfl hv hi (by omega) hW.cs.below.size (fun v' w' h1 h2 => ?_)
                        have hN : JB wT wr.heap.size 65 #[.int .i64 f.pl, .int .i64 f.kind, .int .i64 f.to, .int .i64 f.add] (.slice (some ⟨g, 0, none⟩) N cp) N L 3 [f.pl, f.kind, f.to] nb2 2 w' (upd vals 1 v') := ⟨hW.cs.app (hW.row (by decide)) h2 (by decide), fun h => absurd h (by decide), fun h => absurd h (by decide), fun _ => h1, fun h => absurd h (by decide), fun h => absurd h (by decide), fun h => absurd h (by decide)⟩
                        exact ⟨_, rfl, hN⟩
                      simp only [Act.put, pA, pB, pC]
                      refine ⟨fun kk hkk W hW => ?_, ?_⟩
                      · unfold Oper.wp
                        simp [go_sem]
                        try exact ⟨_, rfl, rfl⟩
                      simp only [Act.put, pA, pB, pC]
                      refine ⟨fun kk hkk W hW => ?_, ?_⟩
                      · have q : W.cell? ⟨wr.heap.size, 3, none⟩ = some (.int .i64 f.add) := hW.cs.has.cell 3
                        unfold Oper.wp
                        simp [go_sem, q]
                        try exact ⟨_, rfl, rfl⟩
                      simp only [Act.put, pA, pB, pC]
                      refine ⟨fun kk hkk W hW => ?_, ?_⟩
                      · unfold Oper.wp
                        simp [go_sem, u5]
                        try exact ⟨_, rfl, rfl⟩
                      simp only [Act.put, pA, pB, pC]
                      refine ⟨fun W hW => ?_, ?_⟩
                      · unfold Oper.wp
                        simp [go_sem]
                        refine (HPV.out W).mono ?_
                        rintro e w' ⟨ad, c, rfl, hi, hb⟩
                        have hN : JB wT wr.heap.size 65 #[.int .i64 f.pl, .int .i64 f.kind, .int .i64 f.to, .int .i64 f.add] (.slice (some ⟨g, 0, none⟩) N cp) N L 3 [f.pl, f.kind, f.to] nb2 3 w' (upd vals 2 (.slice ad 2 c)) := ⟨hW.cs.call hb, fun h => absurd h (by decide), fun h => absurd h (by decide), fun _ => (hW.app ⟨by decide, by decide⟩).only hb, fun _ => ⟨ad, c, rfl, hi⟩, fun h => absurd h (by decide), fun h => absurd h (by decide)⟩
                        first | exact hN | exact ⟨_, rfl, hN⟩
                      simp only [Act.put, pA, pB, pC]
                      refine ⟨fun W hW => ?_, ?_⟩
                      · obtain ⟨ad, c, hv, hi⟩ := hW.num rfl
                        refine wp_append_ints _ _ rfl wT.heap.size (vals 1) (N + 3) (L ++ [f.pl, f.kind, f.to]) rfl (hW.app ⟨by decide, by decide⟩) ad 2 c W.heap.size nb2 HNB2.out hv hi (by omega) hW.cs.below.size (fun v' w' h1 h2 => ?_)
                        have hN : JB wT wr.heap.size 65 #[.int .i64 f.pl, .int .i64 f.kind, .int .i64 f.to, .int .i64 f.add] (.slice (some ⟨g, 0, none⟩) N cp) N L 3 [f.pl, f.kind, f.to] nb2 4 w' (upd vals 3 v') := ⟨hW.cs.app (hW.app ⟨by decide, by decide⟩) h2 (by decide), fun h => absurd h (by decide), fun h => absurd h (by decide), fun h => absurd h.2 (by decide), fun h => absurd h (by decide), fun _ => h1, fun h => absurd h (by decide)⟩
                        exact ⟨_, rfl, hN⟩
                      simp only [Act.put, pA, pB, pC]
                      refine ⟨fun W hW => ?_, trivial⟩
                      have hN : JB wT wr.heap.size 65 #[.int .i64 f.pl, .int .i64 f.kind, .int .i64 f.to, .int .i64 f.add] (.slice (some ⟨g, 0, none⟩) N cp) N L 3 [f.pl, f.kind, f.to] nb2 5 W (upd vals 4 (vals 3)) := ⟨hW.cs, fun h => absurd h (by decide), fun h => absurd h (by decide), fun h => absurd h.2 (by decide), fun h => absurd h (by decide), fun h => absurd h (by decide), fun _ => hW.app2 rfl⟩
                      unfold Oper.wp
                      simp [go_sem]
                      first | exact hN | exact ⟨_, rfl, hN⟩
                    · intro W vals hJ
                      have row7 := hJ.fin rfl
                      obtain ⟨ge, cpe, hve⟩ := row7.shape (by omega)
                      have hbW := hJ.cs.below
                      simp only [putAll, List.map_cons, List.map_nil, Job.val, Act.put, pA, pB, pC]
                      rw [hve] at row7 ⊢
                      obtain ⟨Ne, hNe⟩ : ∃ q, N + 3 + 2 = q := ⟨_, rfl⟩
                      rw [hNe] at row7 ⊢
                      have HROW7 := hidden row7
                      have HEQ : Hid (L ++ [f.pl, f.kind, f.to] ++ nb2 = Lo ++ (y.s.fixs.take (j + 1)).flatMap fixBytes) := by
                        show _ = _
                        rw [hL.out, flat_snoc _ HF.out, fixBytes, HNV.out]
                        simp [List.append_assoc]
                      have hNb : Ne ≤ No + 5 * (j + 1) := by omega
                      have hNe0 : 0 < Ne := by omega
                      clear hve hJ row7 hNe u1 u2 u3 u5 hrow hcs hrowA hJ0 HPV HWF
                      go_wp2_with fail
                      go_roundw
                      case rel => exact ⟨j + 1, ge, cpe, Ne, _, rfl, by go_num, by omega, HROW7.out, HEQ, hNb, hNe0, hbW⟩
                      case measure => simp [intOf]; omega
                  · have hjlt : ¬ (j : Int) < (nf : Int) := by omega
                    have HEQ : Hid (L = L2 ++ (l.take (k + 1)).flatMap fun y => y.s.fixs.flatMap fixBytes) := by
                      show _ = _
                      have e : y.s.fixs.take j = y.s.fixs := List.take_of_length_le (by rw [HNF.out]; omega)
                      rw [hL.out, e, flat_snoc _ HY.out, hLo.out]
                      simp [List.append_assoc]
                    have hNb : N ≤ 130 + 30 * (k + 1) := by omega
                    clear hL
                    go_wp2_with fail
                    go_roundw
                    case rel => exact ⟨k + 1, g, cp, N, L, rfl, by go_num, by omega, hrow.out, HEQ, hNb, hN0, hbw⟩
                    case measure => simp [intOf]; omega
              · have hilt : ¬ (k : Int) < (n : Int) := by omega
                have HA3 : Hid (Lo = L2 ++ l.flatMap fun y => y.s.fixs.flatMap fixBytes) := by
                  show _ = _
                  have e : l.take k = l := List.take_of_length_le (by rw [← HN.out]; omega)
                  rw [hLo.out, e]
                have hN1 : No ≤ 370 := by omega
                clear hLo hlt hk hNo
                have hTI := hidden (HTI.out _ hbwo)
                go_wp2_with (at_builtin; refine wpList_append_ints _ rfl _ _ rfl wT.heap.size _ No Lo rfl hrowo.out ta K tc wT.heap.size TT HK.out.symm rfl hTI.out (by omega) hbwo.size ?_)
                intro v4 w4 hrow4 hg4
                have hbw4 := hbwo.grown hg4 hbwo.size (fun q hq => (World.ownsRow.lt hrowo.out q hq).1)
                obtain ⟨g4, cp4, hv4⟩ := hrow4.shape (by omega)
                subst hv4
                obtain ⟨N4, hN4⟩ : ∃ q, No + K = q := ⟨_, rfl⟩
                rw [hN4] at hrow4
                have HROW4 := hidden hrow4
                have HA4 : Hid (Lo ++ TT = L2 ++ (l.flatMap fun y => y.s.fixs.flatMap fixBytes) ++ TT) := by show _ = _; rw [HA3.out]
                have hN04 : 0 < N4 := by omega
                have hN40 : N4 ≤ 770 := by omega
                rw [hN4]
                clear hrow4 hN4 hg4 hilt x0 hTI hrowo
                go_wp2_with fail
                go_loopw [4, 12] (fun v i wr => ∃ (k g cp N : Nat) (L : List Int), v = .slice (some ⟨g, 0, none⟩) N cp ∧ i = .int .i64 k ∧ k ≤ n ∧ Hid (RowI wr wT.heap.size (.slice (some ⟨g, 0, none⟩) N cp) N L) ∧ Hid (L = Lo ++ TT ++ (l.take k).flatMap fun y => y.s.bytes) ∧ N ≤ 770 + 48 * k ∧ 0 < N ∧ Below wT.heap.size wT wr) (fun _ i _ => n - (intOf i).toNat)
                case atStart => exact ⟨0, g4, cp4, N4, Lo ++ TT, rfl, rfl, Nat.zero_le _, HROW4.out, hidden (by simp), by omega, hN04, hbw4⟩
                case round =>
                  obtain ⟨k, g, cp, N, L, rfl, rfl, hk, hrow, hL, hN, hN0, hbw⟩ := hrel
                  clear HROW4 hbw4
                  have x0 := (HC.out wr hbw).1
                  by_cases hlt : k < n
                  · have hilt : (k : Int) < (n : Int) := by omega
                    have hkl : k < l.length := by rw [← HN.out]; exact hlt
                    obtain ⟨b, off, rfl, hbB, hpp⟩ := (H1.out.below ((HOW.out wr hbw).mono HB.out)).at_ hkl
                    obtain ⟨y, hy⟩ : ∃ y, l[k] = y := ⟨_, rfl⟩
                    rw [hy] at hpp
                    obtain ⟨-, -, -, p3, -, -⟩ := hpp
                    have HY : Hid (l[k]? = some y) := by show _ = _; rw [List.getElem?_eq_getElem hkl, hy]
                    have hym : y ∈ l := by rw [← hy]; exact List.getElem_mem hkl
                    obtain ⟨-, s2, -, -, -, -⟩ := hsec.out y hym
                    have hyb := hidden ((H1.out.bytes y hym).below ((HOW.out wr hbw).mono HB.out))
                    obtain ⟨nby, hnby⟩ : ∃ q, y.s.bytes.length = q := ⟨_, rfl⟩
                    rw [hnby] at p3 s2
                    have HNBY := hidden hnby
                    clear hy hkl hym hbB hnby
                    go_wp2_with (at_builtin; refine wpList_append_ints _ rfl _ _ rfl wT.heap.size _ N L rfl hrow.out y.a1 nby y.c1 B y.s.bytes HNBY.out.symm rfl hyb.out (by omega) hbw.size ?_)
                    intro v2 w2' hrow2' hg2'
                    have hbw2' := hbw.grown hg2' hbw.size (fun q hq => (World.ownsRow.lt hrow.out q hq).1)
                    obtain ⟨g2', cp2', hv2'⟩ := hrow2'.shape (by omega)
                    subst hv2'
                    obtain ⟨N2', hN2'⟩ : ∃ q, N + nby = q := ⟨_, rfl⟩
                    rw [hN2'] at hrow2' ⊢
                    have HROW7 := hidden hrow2'
                    have HEQ : Hid (L ++ y.s.bytes = Lo ++ TT ++ (l.take (k + 1)).flatMap fun y => y.s.bytes) := by
                      show _ = _
                      rw [hL.out, flat_snoc _ HY.out]
                      simp [List.append_assoc]
                    have hNb : N2' ≤ 770 + 48 * (k + 1) := by omega
                    have hN20 : 0 < N2' := by omega
                    clear hrow2' hN2' hg2' hrow hL hyb
                    go_wp2_with fail
                    go_roundw
                    case rel => exact ⟨k + 1, g2', cp2', N2', _, rfl, by go_num, by omega, HROW7.out, HEQ, hNb, hN20, hbw2'⟩
                    case measure => simp [intOf]; omega
                  · have hilt : ¬ (k : Int) < (n : Int) := by omega
                    have hLR : L = R := by
                      have e : l.take k = l := List.take_of_length_le (by rw [← HN.out]; omega)
                      rw [hL.out, e, HA4.out, HA2.out, HA1.out, HRR.out]
                      simp [List.append_assoc]
                    have HFIN : Hid (RowI wr w.heap.size (.slice (some ⟨g, 0, none⟩) N cp) R.length R) := by
                      have h := hrow.out.lower (b := w.heap.size) HBT.out.size
                      have e := hrow.out.len
                      rw [hLR] at h e
                      rw [← e]; exact h
                    have hfin := hidden (HOW.out wr hbw)
                    clear hL hLR hrow
                    go_wp2_with fail
                    go_ret
                    exact ⟨_, rfl, by simp, HFIN.out, hfin.out⟩
theorem writeObject'_row (w : World) (B : Nat) (a1 a2 : Option Addr) (c1 c2 n m : Nat) (l : List Sp) (ms : List Sm) (hn : n = l.length) (hm : m = ms.length) (h1 : Sects w B a1 l) (h2 : Syms w B a2 ms) (hB : B ≤ w.heap.size) (hlen : n ≤ 9223372036854775807) (hlem : m ≤ 9223372036854775807)
    (hl : ∀ y ∈ l, y.s.lens) (hs : ∀ x ∈ ms, x.name.size ≤ maxLen) :
    Calls Tryz.prog 9 #[.agg #[.slice a1 n c1, .slice a2 m c2]] w fun e w' => ∃ v, e = .returned v ∧ RowI w' w.heap.size v (writeObj l ms).length (writeObj l ms) ∧ Below w.heap.size w w' :=
  (writeObject'_at w B a1 a2 c1 c2 n m l ms hn hm h1 h2 hB hlen hlem hl hs).mono fun _ _ ⟨v, he, _, hr, hb⟩ => ⟨v, he, hr, hb⟩

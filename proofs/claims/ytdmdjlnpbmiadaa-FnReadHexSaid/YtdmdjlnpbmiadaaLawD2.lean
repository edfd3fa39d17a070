/-
  What FnHexText and FnReadHex draw; their walks over what is wanted of the program.
-/
import Derived.Test.YtdmdjlnpbmiadaaLawD1
import Derived.Test.YtdmdjlnpbmiadaaDrA
import Derived.Test.YtdmdjlnpbmiadaaDrawN
import Derived.Test.YtdmdjlnpbmiadaaSamE
namespace Go.Proofs.Ytdmdjlnpbmiadaa
open Go.RowKit

theorem hexT_nums {l : List Int} (h : ∀ x ∈ l, (Lit.int .u8 x).wf = true) : numsOf (strOfNums (hexL l)) = hexL l :=
  numsOf_strOfNums fun c hc => by have := hexL_chars l (fun x hx => wf_u8.mp (h x hx)) c hc; omega
set_option maxRecDepth 100000 in
set_option maxHeartbeats 1000000 in
theorem drawHexText_any (w : World) (a : Option Addr) (cap : Nat) (l : List Int) (h : Ints w .u8 w.heap.size a l) (hcap : l.length ≤ cap) (hlen : cap ≤ 9223372036854775807) :
    Calls Try.prog 7 #[.slice a l.length cap] w fun e w' => ∃ (b : Option Addr) (c : Nat) (t : List Int), e = .returned (.slice b t.length c) ∧ t.length ≤ 9 ∧ t.length ≤ c ∧ c ≤ maxLen ∧ Ints w' .u8 w'.heap.size b t ∧ Below w.heap.size w w' := by
  go_enter Try.func7, Try.ntmps7
  go_wp2_with fail
  refine (l20Open_any w a cap l h hcap hlen).mono ?_
  rintro e w1 ⟨rfl, hr1, hb1⟩
  clear h
  go_wp2_with fail
  refine (l20Bytes_any _ w.heap.size w.heap.size 0 9 hr1 (by omega) (by omega) (by omega)).mono ?_
  rintro e w2 ⟨v, bs, rfl, hown, hwf, hbl, hr2, hg2⟩
  obtain ⟨a2, c2, rfl, hc2, hm2, hi2⟩ := ints_of_own3 hown hwf
  have HF := hidden (hb1.grown hg2 hb1.size (by simp))
  have HI := hidden hi2
  clear hb1 hg2 hown hwf hr1 hr2 hi2
  go_wp2_with fail
  go_ret
  exact ⟨a2, c2, bs, rfl, by omega, hc2, hm2, HI.out, HF.out⟩
set_option maxRecDepth 100000 in
set_option maxHeartbeats 2000000 in
theorem drawReadHex_any (w : World) (a : Option Addr) (cap : Nat) (l : List Int) (h : Ints w .u8 w.heap.size a l) (hcap : l.length ≤ cap) (hlen : cap ≤ 9223372036854775807) :
    Calls Try.prog 13 #[.slice a l.length cap] w fun e w' => ∃ T : ByteArray, e = .returned (.string T) ∧ T.size ≤ 20 ∧ Below w.heap.size w w' := by
  go_enter Try.func13, Try.ntmps13
  go_wp2_with fail
  refine (l20Open_any w a cap l h hcap hlen).mono ?_
  rintro e w1 ⟨rfl, hr1, hb1⟩
  clear h
  go_wp2_with fail
  refine (l20Bytes_any _ w.heap.size w.heap.size 0 6 hr1 (by omega) (by omega) (by omega)).mono ?_
  rintro e w2 ⟨v, bs, rfl, hown, hwf, hbl, hr2, hg2⟩
  obtain ⟨a2, c2, rfl, hc2, hm2, hi2⟩ := ints_of_own3 hown hwf
  have HB2 := hidden (hb1.grown hg2 hb1.size (by simp))
  have HH := hidden (hexText'_any w2 w2.heap.size a2 c2 bs.length bs rfl hi2 (Nat.le_refl _) (by omega))
  have hTs : (strOfNums (hexL bs)).size ≤ 12 := by rw [strOfNums_size, hexL_length]; omega
  obtain ⟨T, hT⟩ : ∃ T, strOfNums (hexL bs) = T := ⟨_, rfl⟩
  rw [hT] at HH hTs
  have HR2 := hidden hr2
  clear hb1 hg2 hown hwf hr1 hi2 hT hr2
  go_wp2_with fail
  refine HH.out.mono ?_
  clear HH
  rintro e w3 ⟨rfl, hb3⟩
  have HB3 := hidden (HB2.out.trans (hb3.mono HB2.out.size))
  have HO := hidden (odd_any w3 w.heap.size w.heap.size _ 3 (HR2.out.below hb3 HR2.out.lt) (by omega) (by omega) (by omega))
  clear hb3 HB2 HR2
  go_wp2_with fail
  refine HO.out.mono ?_
  clear HO
  rintro e w4 ⟨b, rfl, hr4, hg4⟩
  have HB4 := hidden (HB3.out.grown hg4 HB3.out.size (by simp))
  have HR4 := hidden hr4
  clear hr4 hg4 HB3
  rcases b with _ | _
  · clear HR4
    go_wp2_with fail
    go_ret
    exact ⟨T, rfl, by omega, HB4.out⟩
  · have hs1 : ¬ 9223372036854775807 < T.size + (⟨#[49]⟩ : ByteArray).size := by rw [show (⟨#[49]⟩ : ByteArray).size = 1 from rfl]; omega
    have hs2 : ¬ 9223372036854775807 < (⟨#[32]⟩ : ByteArray).size + T.size := by rw [show (⟨#[32]⟩ : ByteArray).size = 1 from rfl]; omega
    have HP := hidden (pick_any (w4.alloc (.cells #[.string ⟨#[]⟩, .string ⟨#[48]⟩, .string ⟨#[48, 103]⟩, .string ⟨#[65, 66]⟩, .string ⟨#[97, 98, 32]⟩, .string (T ++ ⟨#[49]⟩), .string (⟨#[32]⟩ ++ T)] 9)) w.heap.size w.heap.size _ 7 (HR4.out.alloc _) (by omega) (by omega) (by omega))
    have HN := hidden (Has.new w4 9 #[.string ⟨#[]⟩, .string ⟨#[48]⟩, .string ⟨#[48, 103]⟩, .string ⟨#[65, 66]⟩, .string ⟨#[97, 98, 32]⟩, .string (T ++ ⟨#[49]⟩), .string (⟨#[32]⟩ ++ T)])
    have HB5 := hidden (HB4.out.alloc HB4.out.size (.cells #[.string ⟨#[]⟩, .string ⟨#[48]⟩, .string ⟨#[48, 103]⟩, .string ⟨#[65, 66]⟩, .string ⟨#[97, 98, 32]⟩, .string (T ++ ⟨#[49]⟩), .string (⟨#[32]⟩ ++ T)] 9))
    have hlt4 := HR4.out.lt
    clear HR4 HB4
    go_wp2_with fail
    refine HP.out.mono ?_
    clear HP
    rintro e w6 ⟨x, rfl, x0, x1, hr6, hg6⟩
    have hh6 := HN.out.grown hg6 (fun e => by injection e with e; omega)
    have HB6 := hidden (HB5.out.grown hg6 HB5.out.size (by simp))
    obtain ⟨i, rfl⟩ := Int.eq_ofNat_of_zero_le x0
    have hi7 : i < 7 := by omega
    obtain ⟨u, hu, hus⟩ : ∃ u : ByteArray, w6.cell? ⟨w4.heap.size, i, none⟩ = some (.string u) ∧ u.size ≤ 20 := by
      rw [hh6.cell]
      have hc : i = 0 ∨ i = 1 ∨ i = 2 ∨ i = 3 ∨ i = 4 ∨ i = 5 ∨ i = 6 := by omega
      rcases hc with rfl | rfl | rfl | rfl | rfl | rfl | rfl
      · exact ⟨_, rfl, by decide⟩
      · exact ⟨_, rfl, by decide⟩
      · exact ⟨_, rfl, by decide⟩
      · exact ⟨_, rfl, by decide⟩
      · exact ⟨_, rfl, by decide⟩
      · exact ⟨_, rfl, by rw [ByteArray.size_append, show (⟨#[49]⟩ : ByteArray).size = 1 from rfl]; omega⟩
      · exact ⟨_, rfl, by rw [ByteArray.size_append, show (⟨#[32]⟩ : ByteArray).size = 1 from rfl]; omega⟩
    clear hr6 hg6 hh6 HN HB5
    go_wp2_with fail
    go_ret
    exact ⟨u, rfl, hus, HB6.out⟩
set_option maxRecDepth 100000 in
set_option maxHeartbeats 2000000 in
theorem law_HexText (hH : WantHexText) (hR : WantReadHex) (w : World) (a0 : Option Addr) (len cap : Nat) (h : Came w a0 len cap) :
    Calls Try.prog 3 #[.slice a0 len cap] w fun e w' => e = .returned (.bool true) ∧ Below w.heap.size w w' := by
  obtain ⟨l0, h, rfl, hcap, hmax⟩ := h
  by_cases hbig : 1048576 < l0.length
  · have hd : (1048576 : Int) < (l0.length : Int) := by omega
    go_enter Try.func3, Try.ntmps3
    go_wp2
    go_ret
    exact ⟨rfl, Below.refl _ _⟩
  have hd : ¬ (1048576 : Int) < (l0.length : Int) := by omega
  have HD := hidden (drawHexText_any w a0 cap l0 h hcap hmax)
  clear h
  go_enter Try.func3, Try.ntmps3
  go_wp2_with fail
  refine HD.out.mono ?_
  clear HD
  rintro e w1 ⟨tb, tc, t, rfl, ht9, htc, htm, hi1, hb1⟩
  have htm2 : tc ≤ 9223372036854775807 := by unfold maxLen at htm; omega
  obtain ⟨T, hT⟩ : ∃ T, strOfNums (hexL t) = T := ⟨_, rfl⟩
  have HTN : Hid (rhx (numsOf T) = (t, true)) := by
    show _ = _
    rw [← hT, hexT_nums hi1.1, rhx_yes (fun x hx => wf_u8.mp (hi1.1 x hx))]
  have hTs : T.size = 2 * t.length := by rw [← hT, strOfNums_size, hexL_length]
  have HI := hidden (hH w1 w1.heap.size tb tc t hi1 (Nat.le_refl _) (by omega) htc htm2)
  have HSP := hidden (fun (W : World) (hW : Below w1.heap.size w1 W) => hexText'_any W w1.heap.size tb tc t.length t rfl (hi1.below hW) hW.size (by omega))
  have HI1 := hidden (fun (W : World) (hW : Below w1.heap.size w1 W) => hi1.below hW)
  obtain ⟨n, hn⟩ : ∃ n, t.length = n := ⟨_, rfl⟩
  rw [hT] at HI HSP
  rw [hn] at HI HSP hTs ht9 ⊢
  have HN := hidden hn
  have HB1 := hidden hb1
  have HR := hidden hR
  have hss : (T.toList == T.toList) = true := beq_self_eq_true _
  clear hi1 hT hn hb1 hH hR htc htm htm2
  go_wp2_with fail
  refine HI.out.mono ?_
  clear HI
  rintro e w2 ⟨rfl, hb2⟩
  have HB2 := hidden hb2
  clear hb2
  go_wp2_with fail
  refine (HSP.out w2 HB2.out).mono ?_
  clear HSP
  rintro e w3 ⟨rfl, hb3⟩
  have HB3 := hidden (HB2.out.trans (hb3.mono HB2.out.size))
  have HRX := hidden (HR.out w3 T (by omega))
  clear hb3 HB2
  go_wp2_with fail
  refine HRX.out.mono ?_
  clear HRX
  intro e w4 hr
  obtain ⟨a4, c4, g4, he, -, -, hi4, -, -, hb4⟩ := hr.parts
  rw [HTN.out] at he hi4
  simp only at he hi4
  rw [HN.out] at he
  subst he
  have HB4 := hidden (HB3.out.trans (hb4.mono HB3.out.size))
  have HSB := hidden (sameBytes_yes w4 w4.heap.size w1.heap.size a4 tb c4 tc t hi4 (HI1.out w4 HB4.out) (by rw [HN.out]; omega))
  rw [HN.out] at HSB
  have hmul : IntKind.i64.wrap (2 * (n : Int)) = 2 * (n : Int) := IntWalk.i64_in _ (by omega)
  have hTi : (T.size : Int) = 2 * (n : Int) := by omega
  have HB5 := hidden (HB1.out.trans (HB4.out.mono HB1.out.size))
  clear hr hi4 hb4 HB3 HI1 HB4 hTs
  go_wp2_with fail
  refine HSB.out.mono ?_
  clear HSB
  rintro e _ ⟨rfl, m, rfl⟩
  have HF := hidden (below_drewN HB5.out m)
  clear HB5
  go_wp2_with (go_at_call 12; refine (alive_any _).mono ?_; rintro e _ ⟨rfl, rfl⟩)
  go_ret
  exact ⟨rfl, HF.out⟩
set_option maxRecDepth 100000 in
set_option maxHeartbeats 2000000 in
theorem law_ReadHex (hH : WantHexText) (hR : WantReadHex) (w : World) (a0 : Option Addr) (len cap : Nat) (h : Came w a0 len cap) :
    Calls Try.prog 4 #[.slice a0 len cap] w fun e w' => e = .returned (.bool true) ∧ Below w.heap.size w w' := by
  obtain ⟨l0, h, rfl, hcap, hmax⟩ := h
  by_cases hbig : 1048576 < l0.length
  · have hd : (1048576 : Int) < (l0.length : Int) := by omega
    go_enter Try.func4, Try.ntmps4
    go_wp2
    go_ret
    exact ⟨rfl, Below.refl _ _⟩
  have hd : ¬ (1048576 : Int) < (l0.length : Int) := by omega
  have HD := hidden (drawReadHex_any w a0 cap l0 h hcap hmax)
  clear h
  go_enter Try.func4, Try.ntmps4
  go_wp2_with fail
  refine HD.out.mono ?_
  clear HD
  rintro e w1 ⟨T, rfl, hT20, hb1⟩
  have HI1 := hidden (hR w1 T (by omega))
  have HS := hidden (fun W => readHex'_any W T (by omega))
  have HR := hidden (hR)
  have HH := hidden hH
  have HB1 := hidden hb1
  clear hb1 hH hR
  go_wp2_with fail
  refine HI1.out.mono ?_
  clear HI1
  intro e w2 hr
  obtain ⟨a2, c2, g2, rfl, hc2, hm2, hi2, -, -, hb2⟩ := hr.parts
  obtain ⟨l, hl⟩ : ∃ l, (rhx (numsOf T)).1 = l := ⟨_, rfl⟩
  obtain ⟨ok, hok⟩ : ∃ ok, (rhx (numsOf T)).2 = ok := ⟨_, rfl⟩
  have hll := rhx_length (numsOf T)
  rw [numsOf_length] at hll
  rw [hl] at hc2 hi2 hll
  obtain ⟨n, hn⟩ : ∃ n, l.length = n := ⟨_, rfl⟩
  rw [hl, hok, hn]
  rw [hn] at hc2 hll
  have HL := hidden hl
  have HOK := hidden hok
  have HN := hidden hn
  have HI2 := hidden (fun (W : World) (hW : Below w2.heap.size w2 W) => hi2.below hW)
  have HB2 := hidden (HB1.out.trans (hb2.mono HB1.out.size))
  have HS2 := hidden (HS.out w2)
  clear hr hi2 hb2 hl hok hn HB1 HS
  go_wp2_with fail
  refine HS2.out.mono ?_
  clear HS2
  intro e w3 hr
  obtain ⟨a3, c3, g3, rfl, -, -, hi3, -, -, hb3⟩ := hr.parts
  rw [HL.out] at hi3
  rw [HL.out, HOK.out, HN.out]
  have HSB := hidden (sameBytes_yes w3 w2.heap.size w3.heap.size a2 a3 c2 c3 l (HI2.out w3 hb3) hi3 (by rw [HN.out]; omega))
  rw [HN.out] at HSB
  have HB3 := hidden (HB2.out.trans (hb3.mono HB2.out.size))
  have HB23 := hidden hb3
  have hoo : (ok != ok) = false := by simp
  clear hr hi3 hb3 HB2
  go_wp2_with fail
  refine HSB.out.mono ?_
  clear HSB
  rintro e _ ⟨rfl, m, rfl⟩
  have HB4 := hidden (below_drewN HB3.out m)
  have HB24 := hidden (below_drewN HB23.out m)
  obtain ⟨w4, hw4⟩ : ∃ q, w3.drewN m = q := ⟨_, rfl⟩
  rw [hw4] at HB4 HB24 ⊢
  clear HB3 HB23 hw4
  rcases ok with _ | _
  · have hl0 : l = [] := by
      have h1 := HL.out
      have h2 := HOK.out
      unfold rhx at h1 h2
      split at h2
      · cases h2
      · rename_i hq; rw [hq] at h1; exact h1.symm
    have hn0 : n = 0 := by rw [← HN.out, hl0]; rfl
    subst hn0
    clear hl0
    go_wp2_with (go_at_call 12; refine (alive_any _).mono ?_; rintro e _ ⟨rfl, rfl⟩)
    go_ret
    exact ⟨rfl, HB4.out⟩
  · have hq : rdHexL (numsOf T) = some l := by
      have h1 := HL.out
      have h2 := HOK.out
      unfold rhx at h1 h2
      split at h2
      · rename_i q hq
        rw [hq] at h1 ⊢
        simp only at h1
        rw [h1]
      · cases h2
    have hx := (rdHexL_some _ _ hq).1
    have HTX : Hid (strOfNums (hexL l) = T) := by show _ = _; rw [hx, strOfNums_numsOf]
    have hTe : T.size = 2 * n := by rw [← numsOf_length, ← hx, hexL_length, HN.out]
    obtain ⟨V, hV⟩ : ∃ V, T ++ (⟨#[48]⟩ : ByteArray) = V := ⟨_, rfl⟩
    have hVs : V.size = 2 * n + 1 := by rw [← hV, ByteArray.size_append, show (⟨#[48]⟩ : ByteArray).size = 1 from rfl]; omega
    have HV : Hid (rhx (numsOf V) = ([], false)) := rhx_odd (k := n) (by rw [numsOf_length]; exact hVs)
    have hs1 : ¬ 9223372036854775807 < T.size + (⟨#[48]⟩ : ByteArray).size := by rw [show (⟨#[48]⟩ : ByteArray).size = 1 from rfl]; omega
    have HRV := hidden (HR.out w4 V (by omega))
    have HVV := hidden hV
    have HTT : Hid ((T.toList == T.toList) = true) := beq_self_eq_true _
    clear hq hx hV
    go_wp2_with fail
    rw [HVV.out]
    refine HRV.out.mono ?_
    clear HRV hs1
    intro e w5 hr
    obtain ⟨a5, c5, g5, rfl, -, -, -, -, -, hb5⟩ := hr.parts
    rw [HV.out]
    have HHX := hidden (HH.out w5 w2.heap.size a2 c2 l (HI2.out w5 (HB24.out.trans (hb5.mono HB24.out.size))) (Nat.le_trans HB24.out.size hb5.size) (by rw [HN.out]; omega) (by rw [HN.out]; exact hc2) (by unfold maxLen at hm2; omega))
    rw [HN.out, HTX.out] at HHX
    have HB5 := hidden (HB4.out.trans (hb5.mono HB4.out.size))
    have hss := HTT.out
    clear hr hb5 HB4 HB24
    go_wp2_with fail
    refine HHX.out.mono ?_
    clear HHX
    rintro e w6 ⟨rfl, hb6⟩
    have HF := hidden (HB5.out.trans (hb6.mono HB5.out.size))
    clear hb6 HB5
    go_wp2_with fail
    go_ret
    exact ⟨rfl, HF.out⟩
end Go.Proofs.Ytdmdjlnpbmiadaa

/-
  impl.WriteObject.
-/
import Derived.Test.YtjafekjcncmjjaaGreatWriteI
namespace Go.Proofs.YtjafekjcncmjjaaGreat
open Go.RowKit

/-- The bytes of a section and of a symbol, as they are put. -/
def secPut (t : List Int) (y : Sp) : List Int := putList (placeIn t y.s.name) 2 ++ putAllN 1 [y.s.kind, y.s.align, y.s.long, (y.s.fixs.length : Int)]
def symPut (t : List Int) (m : Sm) : List Int := putList (placeIn t m.name) 2 ++ (putAllN 1 [m.bind, m.loc + 2] ++ putList m.value 2)
theorem secPut_short (t : List Int) (y : Sp) : (secPut t y).length ≤ 20 := by
  have h1 := putAllN_short 1 [y.s.kind, y.s.align, y.s.long, (y.s.fixs.length : Int)]
  have h2 := putList_short (placeIn t y.s.name) 2
  unfold secPut
  rw [List.length_append]
  simp only [List.length_cons, List.length_nil] at h1
  omega
theorem symPut_short (t : List Int) (m : Sm) : (symPut t m).length ≤ 20 := by
  have h1 := putAllN_short 1 [m.bind, m.loc + 2]
  have h2 := putList_short (placeIn t m.name) 2
  have h3 := putList_short m.value 2
  unfold symPut
  rw [List.length_append, List.length_append]
  simp only [List.length_cons, List.length_nil] at h1
  omega
theorem putAllN_1 : ∀ ns : List Int, (∀ x ∈ ns, 0 ≤ x ∧ x < 256) → putAllN 1 ns = ns
  | [], _ => rfl
  | x :: r, h => by
    have h1 := putAllN_1 r (fun z hz => h z (by simp [hz]))
    have h2 := h x (by simp)
    unfold putAllN at h1 ⊢
    rw [List.flatMap_cons, h1, putList_yes (by omega) (by omega) h2.1 (by show x < 256; exact h2.2)]
    show bytesOf x 1 ++ r = x :: r
    rw [bytesOf_1 x h2.1 h2.2]; rfl
theorem flatMap_same {A : Type} {f g : A → List Int} : ∀ l : List A, (∀ x ∈ l, f x = g x) → l.flatMap f = l.flatMap g
  | [], _ => rfl
  | x :: r, h => by rw [List.flatMap_cons, List.flatMap_cons, h x (by simp), flatMap_same r (fun z hz => h z (by simp [hz]))]
theorem puts_eq {l : List Sp} {ms : List Sm} (h : objOk (l.map Sp.s) ms = true) {T P0 : List Int} (hT : nameTab (allNames l ms) = T) (hP : putHd (headOf l ms T) = P0) :
    P0 ++ l.flatMap (secPut T) ++ ms.flatMap (symPut T) ++ (l.flatMap fun y => y.s.fixs.flatMap fixPut) ++ T ++ (l.flatMap fun y => y.s.bytes) = writeObj l ms := by
  have ht := objOk_told h
  have e1 : l.flatMap (secPut T) = l.flatMap (secBytes T) := flatMap_same l fun y hy => by
    obtain ⟨b1, b2, -⟩ := sect_bytes (ht.sec y hy)
    obtain ⟨-, -, p3, p4, p5, -⟩ := sect_parts (ht.sec y hy)
    unfold secPut secBytes
    rw [putAllN_1]
    intro x hx
    simp only [List.mem_cons, List.not_mem_nil, or_false] at hx
    rcases hx with rfl | rfl | rfl | rfl <;> constructor <;> omega
  have e2 : ms.flatMap (symPut T) = ms.flatMap (symBytes T) := flatMap_same ms fun m hm => by
    obtain ⟨b1, b2, b3⟩ := sym_bytes ht hm
    unfold symPut symBytes
    rw [putAllN_1]
    intro x hx
    simp only [List.mem_cons, List.not_mem_nil, or_false] at hx
    rcases hx with rfl | rfl <;> constructor <;> omega
  have e3 : (l.flatMap fun y => y.s.fixs.flatMap fixPut) = l.flatMap fun y => y.s.fixs.flatMap fixBytes := flatMap_same l fun y hy => flatMap_same _ fun f hf => by
    obtain ⟨b1, b2, ⟨b3, b4⟩, -⟩ := (sect_bytes (ht.sec y hy)).2.2 f hf
    have h12 := ht.syms
    unfold fixPut fixBytes
    rw [putAllN_1]
    intro x hx
    simp only [List.mem_cons, List.not_mem_nil, or_false] at hx
    rcases hx with rfl | rfl | rfl <;> constructor <;> omega
  unfold writeObj
  rw [if_pos h, hT, hP, e1, e2, e3]
  simp only [List.append_assoc]
set_option maxRecDepth 100000 in
set_option maxHeartbeats 8000000 in
theorem writeObject_any (want : WantNameTable) (w : World) (B : Nat) (a1 a2 : Option Addr) (c1 c2 n m : Nat) (l : List Sp) (ms : List Sm) (hn : n = l.length) (hm : m = ms.length) (h1 : Sects w B a1 l) (h2 : Syms w B a2 ms) (hB : B ≤ w.heap.size) (hlen : n ≤ 9223372036854775807) (hlem : m ≤ 9223372036854775807)
    (hl : ∀ y ∈ l, y.s.fits) (hs : ∀ x ∈ ms, x.fits) :
    Calls Tryz.prog 7 #[.agg #[.slice a1 n c1, .slice a2 m c2]] w (RowB w (writeObj l ms)) := by
  have HOB := hidden (fun (W : World) (hW : Below w.heap.size w W) => objectValid_any W B a1 a2 c1 c2 n m l ms hn hm (h1.below (hW.mono hB)) (h2.below (hW.mono hB)) (Nat.le_trans hB hW.size) hlen hlem hl hs)
  have HNS := hidden (names_short hl hs)
  obtain ⟨ok, hok⟩ : ∃ ok, objOk (l.map Sp.s) ms = ok := ⟨_, rfl⟩
  rw [hok] at HOB
  have HOK := hidden hok
  have HN := hidden hn
  have HM := hidden hm
  have H1 := hidden h1
  have H2 := hidden h2
  have HB := hidden hB
  have HL := hidden hl
  have HS := hidden hs
  obtain ⟨R, hR⟩ : ∃ R, writeObj l ms = R := ⟨_, rfl⟩
  have HR := hidden hR
  rw [hR]
  clear hok hn hm h1 h2 hl hs hR hB
  go_enter Tryz.func7, Tryz.ntmps7
  obtain ⟨X, hX⟩ : ∃ X : World, w.alloc (.cells #[.slice a1 n c1, .slice a2 m c2] 32) = X := ⟨_, rfl⟩
  have hb : Below w.heap.size w X := by rw [← hX]; exact (Below.refl _ _).alloc (Nat.le_refl _) _
  have hx : Has X w.heap.size 32 #[.slice a1 n c1, .slice a2 m c2] := by rw [← hX]; exact Has.new _ _ _
  have hXs : X.heap.size = w.heap.size + 1 := by rw [← hX]; simp
  have HX := hidden hX
  have HC : Hid (∀ W, Below X.heap.size X W → W.cell? ⟨w.heap.size, 0, none⟩ = some (.slice a1 n c1) ∧ W.cell? ⟨w.heap.size, 1, none⟩ = some (.slice a2 m c2)) := fun W hW => ⟨(hW.cell (by show w.heap.size < _; omega)).trans (hx.cell 0), (hW.cell (by show w.heap.size < _; omega)).trans (hx.cell 1)⟩
  clear hX hx
  go_wp2_with fail
  rw [HX.out]
  refine (HOB.out X hb).mono ?_
  clear HOB
  rintro e w2 ⟨rfl, hb2⟩
  have HB2 := hidden (hb.trans (hb2.mono hb.size))
  have HQ : Hid (∀ W, Below w2.heap.size w2 W → W.cell? ⟨w.heap.size, 0, none⟩ = some (.slice a1 n c1) ∧ W.cell? ⟨w.heap.size, 1, none⟩ = some (.slice a2 m c2)) := fun W hW => HC.out W (hb2.trans (hW.mono hb2.size))
  clear hb2 hb HC HX hXs
  rcases ok with _ | _
  · have HF : Hid (R = []) := by show _ = _; rw [← HR.out]; unfold writeObj; rw [HOK.out]; rfl
    go_wp2_with fail
    go_ret
    rw [HF.out]
    exact ⟨_, rfl, World.ownsRow_nil _ _ _ _, HB2.out⟩
  have hT0 := objOk_told HOK.out
  have hn8 : n ≤ 8 := by rw [HN.out]; exact hT0.secs
  have hm12 : m ≤ 12 := by rw [HM.out]; exact hT0.syms
  have HSEC := hidden (fun y hy => sect_parts (hT0.sec y hy))
  have HSY := hidden (fun x hx => sym_bytes hT0 (m := x) hx)
  obtain ⟨F, hF⟩ : ∃ F, manyFix l = F := ⟨_, rfl⟩
  obtain ⟨TT, hTT⟩ : ∃ TT, nameTab (allNames l ms) = TT := ⟨_, rfl⟩
  obtain ⟨K, hK⟩ : ∃ K, TT.length = K := ⟨_, rfl⟩
  have hK4 : 1 ≤ K ∧ K ≤ 400 := by rw [← hK, ← hTT]; exact tab_bounds hT0
  obtain ⟨P0, hP0⟩ : ∃ P0, putHd (headOf l ms TT) = P0 := ⟨_, rfl⟩
  have hP10 : P0.length = 10 := by rw [← hP0, ← hTT]; unfold putHd; rw [if_pos (head_ok hT0)]; rfl
  have hPW : ∀ x ∈ P0, (Lit.int .u8 x).wf = true := by rw [← hP0]; exact putHd_wf _
  have HPH : Hid (∀ W, Calls Tryz.prog 51 #[.agg #[.int .i64 n, .int .i64 m, .int .i64 F, .int .i64 K]] W fun e w' => ∃ ad c, e = .returned (.slice ad 10 c) ∧ Ints w' .u8 w'.heap.size ad P0 ∧ Below W.heap.size W w') := fun W => by
    have h := putHeader_any W (headOf l ms TT)
    rw [hP0] at h
    have e : (headOf l ms TT).agg = .agg #[.int .i64 n, .int .i64 m, .int .i64 F, .int .i64 K] := by
      rw [HN.out, HM.out, ← hF, ← hK]; rfl
    rw [e] at h
    refine h.mono fun e w' h => ?_
    obtain ⟨a, c, g, h1, -, -, h4, -, -, h7⟩ := h.parts hPW
    rw [hP10] at h1
    exact ⟨a, c, h1, h4, h7⟩
  have HRR : Hid (P0 ++ l.flatMap (secPut TT) ++ ms.flatMap (symPut TT) ++ (l.flatMap fun y => y.s.fixs.flatMap fixPut) ++ TT ++ (l.flatMap fun y => y.s.bytes) = R) := by
    show _ = _
    rw [← HR.out]; exact puts_eq HOK.out hTT hP0
  have HFC : Hid (∀ W, Below w2.heap.size w2 W → Calls Tryz.prog 52 #[.agg #[.slice a1 n c1, .slice a2 m c2]] W fun e w' => e = .returned (.int .i64 F) ∧ Below W.heap.size W w') := fun W hW => by
    have hBW := HB2.out.trans (hW.mono HB2.out.size)
    have := fixupCount_any W B a1 a2 c1 c2 n m l HN.out (H1.out.below (hBW.mono HB.out)) (Nat.le_trans HB.out hBW.size) (by omega) (fun y hy => by have := (HSEC.out y hy).2.2.1; omega)
    rwa [hF] at this
  have HNT := hidden (objectTable_any want w2 B a1 a2 c1 c2 n m l ms HN.out HM.out (H1.out.below (HB2.out.mono HB.out)) (H2.out.below (HB2.out.mono HB.out)) (Nat.le_trans HB.out HB2.out.size) (by omega) (by omega) HNS.out)
  rw [hTT] at HNT
  unfold Tabled at HNT
  rw [hK] at HNT
  have HK := hidden hK
  have HP10 := hidden hP10
  have c0 := (HQ.out w2 (Below.refl _ _)).1
  have c1' := (HQ.out w2 (Below.refl _ _)).2
  clear hF hTT hK hP0 hP10 hPW hT0 HR HNS
  go_wp2_with fail
  refine HNT.out.mono ?_
  clear HNT
  rintro e wT ⟨ta, tc, rfl, htc, htm, hti, hbT⟩
  have HTV : Hid (TabV wT ta K tc TT) := ⟨HK.out, hti, htc, htm⟩
  have HBT := hidden (HB2.out.trans (hbT.mono HB2.out.size))
  have HQT : Hid (∀ W, Below wT.heap.size wT W → W.cell? ⟨w.heap.size, 0, none⟩ = some (.slice a1 n c1) ∧ W.cell? ⟨w.heap.size, 1, none⟩ = some (.slice a2 m c2)) := fun W hW => HQ.out W (hbT.trans (hW.mono hbT.size))
  have HFT : Hid (∀ W, Below wT.heap.size wT W → Calls Tryz.prog 52 #[.agg #[.slice a1 n c1, .slice a2 m c2]] W fun e w' => e = .returned (.int .i64 F) ∧ Below W.heap.size W w') := fun W hW => HFC.out W (hbT.trans (hW.mono hbT.size))
  have HSS : Hid (∀ W, Below wT.heap.size wT W → ∀ y ∈ l, Calls Tryz.prog 55 #[.agg #[.string y.s.name, .int .i64 y.s.kind, .int .i64 y.s.align, .slice y.a1 y.s.bytes.length y.c1, .int .i64 y.s.size, .slice y.a2 y.s.fixs.length y.c2]] W fun e w' => e = .returned (.int .i64 y.s.long) ∧ Below W.heap.size W w') := fun W hW y hy => by
    have hBW := HBT.out.trans (hW.mono HBT.out.size)
    have hs1 := H1.out.below (hBW.mono HB.out)
    exact wantSectionSize W B y.s y.a1 y.c1 y.a2 y.c2 (hs1.bytes y hy) (hs1.fixs y hy) (Nat.le_trans HB.out hBW.size) (HL.out y hy)
  have HOW : Hid (∀ W, Below wT.heap.size wT W → Below w.heap.size w W) := fun W hW => HBT.out.trans (hW.mono HBT.out.size)
  have hBN := hidden (Bld.new wT (.slice ta K tc))
  clear htc htm hti hbT HQ HFC c0 c1'
  go_upto_region 4 with fail
  obtain ⟨W1, hW1⟩ : ∃ W1, wT.alloc (.cells #[.slice ta K tc, .slice none 0 0] 62) = W1 := ⟨_, rfl⟩
  rw [hW1] at hBN ⊢
  have d0 := (HQT.out W1 hBN.out.below).1
  have d1 := (HQT.out W1 hBN.out.below).2
  have HPU := hidden (putHeader_bld wT W1 ta K tc hBN.out a1 a2 c1 c2 n m F P0 HP10.out HFT.out HPH.out)
  clear hW1 hBN HFT HPH
  go_wp2_with fail
  refine HPU.out.mono ?_
  clear HPU d0 d1
  rintro e w4 ⟨rfl, hb4, -⟩
  have d0 := (HQT.out w4 hb4.below).1
  have HB4 := hidden hb4
  clear hb4
  go_wp2_with fail
  go_loopw [23] (fun i wr => ∃ (k : Nat) (L : List Int), i = .int .i64 k ∧ k ≤ n ∧ Hid (Bld wT (.slice ta K tc) L wr) ∧ Hid (L = P0 ++ (l.take k).flatMap (secPut TT)) ∧ L.length ≤ 10 + 20 * k) (fun i _ => n - (intOf i).toNat)
  case atStart => exact ⟨0, P0, rfl, Nat.zero_le _, HB4, (by show _ = _; simp), by rw [HP10.out]; omega⟩
  case round =>
    obtain ⟨k, L, rfl, hk, hb, hL, hLs⟩ := hrel
    clear d0 HB4
    by_cases hlt : k < n
    · have hilt : (k : Int) < (n : Int) := by omega
      have hkl : k < l.length := by rw [← HN.out]; exact hlt
      obtain ⟨b, off, rfl, hbB, hp⟩ := (H1.out.below ((HOW.out wr hb.out.below).mono HB.out)).at_ hkl
      obtain ⟨y, hy⟩ : ∃ y, l[k] = y := ⟨_, rfl⟩
      rw [hy] at hp
      obtain ⟨p0, p1, p2, p3, p4, p5⟩ := hp
      have hy2 : l[k]? = some y := by rw [List.getElem?_eq_getElem hkl, hy]
      have hym : y ∈ l := by rw [← hy]; exact List.getElem_mem hkl
      have HPS := hidden (putSection_bld wT (wr.alloc (.cells #[.string y.s.name, .int .i64 y.s.kind, .int .i64 y.s.align, .slice y.a1 y.s.bytes.length y.c1, .int .i64 y.s.size, .slice y.a2 y.s.fixs.length y.c2] 51)) ta K tc TT L HTV.out (hb.out.alloc _) y.s.name y.s.kind y.s.align y.s.size y.s.long y.a1 y.a2 y.s.bytes.length y.s.fixs.length y.c1 y.c2 (HL.out y hym).name (HL.out y hym).count (fun W hW => HSS.out W hW y hym) (by omega))
      have HLN : Hid (L ++ secPut TT y = P0 ++ (l.take (k + 1)).flatMap (secPut TT)) := by show _ = _; rw [hL.out, flat_snoc _ hy2, List.append_assoc]
      have hLN : (L ++ secPut TT y).length ≤ 10 + 20 * (k + 1) := by have := secPut_short TT y; rw [List.length_append]; omega
      have HLNs := hidden hLN
      clear hy hy2 hkl hym hb hL hLN
      go_wp2_with fail
      refine HPS.out.mono ?_
      clear HPS
      rintro e w5 ⟨rfl, hb5, -⟩
      have HB5 : Hid (Bld wT (.slice ta K tc) (L ++ secPut TT y) w5) := hb5
      clear hb5 p0 p1 p2 p3 p4 p5
      go_wp2_with fail
      go_roundw
      case rel => exact ⟨k + 1, _, by go_num, by omega, HB5, HLN, HLNs.out⟩
      case measure => simp [intOf]; omega
    · have hilt : ¬ (k : Int) < (n : Int) := by omega
      have HL1 : Hid (L = P0 ++ l.flatMap (secPut TT)) := by
        show _ = _
        have e : l.take k = l := List.take_of_length_le (by rw [← HN.out]; omega)
        rw [hL.out, e]
      have hL1s : L.length ≤ 170 := by omega
      have d1 := (HQT.out wr hb.out.below).2
      clear hL hlt hk hLs
      go_wp2_with fail
      clear hilt d1
      go_loopw [33] (fun i wr => ∃ (j : Nat) (M : List Int), i = .int .i64 j ∧ j ≤ m ∧ Hid (Bld wT (.slice ta K tc) M wr) ∧ Hid (M = L ++ (ms.take j).flatMap (symPut TT)) ∧ M.length ≤ 170 + 20 * j) (fun i _ => m - (intOf i).toNat)
      case atStart => exact ⟨0, L, rfl, Nat.zero_le _, hb, (by show _ = _; simp), by omega⟩
      case round =>
        obtain ⟨j, M, rfl, hj, hb2, hM, hMs⟩ := hrel
        clear hb
        by_cases hlt : j < m
        · have hilt : (j : Int) < (m : Int) := by omega
          have hkl : j < ms.length := by rw [← HM.out]; exact hlt
          obtain ⟨b, off, rfl, hbB, p0, p1, p2, p3⟩ := (H2.out.below ((HOW.out wr hb2.out.below).mono HB.out)).at_ hkl
          obtain ⟨y, hy⟩ : ∃ y, ms[j] = y := ⟨_, rfl⟩
          rw [hy] at p0 p1 p2 p3
          have hy2 : ms[j]? = some y := by rw [List.getElem?_eq_getElem hkl, hy]
          have hym : y ∈ ms := by rw [← hy]; exact List.getElem_mem hkl
          obtain ⟨-, hlo1, hlo2⟩ := HSY.out y hym
          have HPS := hidden (putSymbol_bld wT (wr.alloc (.cells #[.string y.name, .int .i64 y.bind, .int .i64 y.loc, .int .i64 y.value] 56)) ta K tc TT M HTV.out (hb2.out.alloc _) y.name y.bind y.loc y.value (HS.out y hym).name ⟨by omega, by omega⟩ (by omega))
          have HLN : Hid (M ++ symPut TT y = L ++ (ms.take (j + 1)).flatMap (symPut TT)) := by show _ = _; rw [hM.out, flat_snoc _ hy2, List.append_assoc]
          have hLN : (M ++ symPut TT y).length ≤ 170 + 20 * (j + 1) := by have := symPut_short TT y; rw [List.length_append]; omega
          have HLNs := hidden hLN
          clear hy hy2 hkl hym hb2 hM hLN hlo1 hlo2
          go_wp2_with fail
          refine HPS.out.mono ?_
          clear HPS
          rintro e w5 ⟨rfl, hb5, -⟩
          have HB5 : Hid (Bld wT (.slice ta K tc) (M ++ symPut TT y) w5) := hb5
          clear hb5 p0 p1 p2 p3
          go_wp2_with fail
          go_roundw
          case rel => exact ⟨j + 1, _, by go_num, by omega, HB5, HLN, HLNs.out⟩
          case measure => simp [intOf]; omega
        · have hilt : ¬ (j : Int) < (m : Int) := by omega
          have HL2 : Hid (M = P0 ++ l.flatMap (secPut TT) ++ ms.flatMap (symPut TT)) := by
            show _ = _
            have e : ms.take j = ms := List.take_of_length_le (by rw [← HM.out]; omega)
            rw [hM.out, e, HL1.out]
          have hM1s : M.length ≤ 410 := by omega
          have d0 := (HQT.out wr hb2.out.below).1
          clear hM hlt hj hMs HL1 hL1s
          go_wp2_with fail
          clear hilt d0
          go_loopw [43] (fun i wr => ∃ (k : Nat) (L : List Int), i = .int .i64 k ∧ k ≤ n ∧ Hid (Bld wT (.slice ta K tc) L wr) ∧ Hid (L = M ++ (l.take k).flatMap fun y => y.s.fixs.flatMap fixPut) ∧ L.length ≤ 410 + 96 * k) (fun i _ => n - (intOf i).toNat)
          case atStart => exact ⟨0, M, rfl, Nat.zero_le _, hb2, (by show _ = _; simp), by omega⟩
          case round =>
            obtain ⟨k, L, rfl, hk, hb, hL, hLs⟩ := hrel
            clear hb2
            by_cases hlt : k < n
            · have hilt : (k : Int) < (n : Int) := by omega
              have hkl : k < l.length := by rw [← HN.out]; exact hlt
              have hsx := H1.out.below ((HOW.out wr hb.out.below).mono HB.out)
              obtain ⟨b, off, rfl, hbB, hp⟩ := hsx.at_ hkl
              obtain ⟨y, hy⟩ : ∃ y, l[k] = y := ⟨_, rfl⟩
              rw [hy] at hp
              obtain ⟨p0, p1, p2, p3, p4, p5⟩ := hp
              have hy2 : l[k]? = some y := by rw [List.getElem?_eq_getElem hkl, hy]
              have hym : y ∈ l := by rw [← hy]; exact List.getElem_mem hkl
              obtain ⟨-, -, hy6, -, -, hya⟩ := HSEC.out y hym
              have HPS := hidden (putFixups_bld wT (wr.alloc (.cells #[.string y.s.name, .int .i64 y.s.kind, .int .i64 y.s.align, .slice y.a1 y.s.bytes.length y.c1, .int .i64 y.s.size, .slice y.a2 y.s.fixs.length y.c2] 51)) (.slice ta K tc) L (hb.out.alloc _) B y.a2 y.c2 y.s.fixs.length y.s.fixs rfl ((H1.out.below (HBT.out.mono HB.out)).fixs y hym) (Nat.le_trans HB.out HBT.out.size) hya (by omega))
              have HLN : Hid (L ++ y.s.fixs.flatMap fixPut = M ++ (l.take (k + 1)).flatMap fun y => y.s.fixs.flatMap fixPut) := by show _ = _; rw [hL.out, flat_snoc (fun y => y.s.fixs.flatMap fixPut) hy2, List.append_assoc]
              have hLN : (L ++ y.s.fixs.flatMap fixPut).length ≤ 410 + 96 * (k + 1) := by have := fixPuts_short y.s.fixs; rw [List.length_append]; omega
              have HLNs := hidden hLN
              clear hy hy2 hkl hym hb hL hLN hsx hy6 hya
              go_wp2_with fail
              refine HPS.out.mono ?_
              clear HPS
              rintro e w5 ⟨rfl, hb5, -⟩
              have HB5 := hidden hb5
              clear hb5 p0 p1 p2 p3 p4 p5
              go_wp2_with fail
              go_roundw
              case rel => exact ⟨k + 1, _, by go_num, by omega, HB5, HLN, HLNs.out⟩
              case measure => simp [intOf]; omega
            · have hilt : ¬ (k : Int) < (n : Int) := by omega
              have HL3 : Hid (L ++ TT = P0 ++ l.flatMap (secPut TT) ++ ms.flatMap (symPut TT) ++ (l.flatMap fun y => y.s.fixs.flatMap fixPut) ++ TT) := by
                show _ = _
                have e : l.take k = l := List.take_of_length_le (by rw [← HN.out]; omega)
                rw [hL.out, e, HL2.out]
              have hL3s : L.length ≤ 1178 := by omega
              have HPB := hidden (putBytes_bld wT wr (.slice ta K tc) L hb.out ta K tc TT HK.out.symm ((HTV.out.ints.below hb.out.below).more hb.out.below.size) (by omega))
              have d0 := hb.out.table
              have hLT : (L ++ TT).length ≤ 1578 := by rw [List.length_append, HK.out]; omega
              have HLT := hidden hLT
              clear hL hlt hk hLs HL2 hM1s hb hLT hL3s
              go_wp2_with fail
              refine HPB.out.mono ?_
              clear HPB d0
              rintro e w6 ⟨rfl, hb6, -⟩
              have d0 := (HQT.out w6 hb6.below).1
              have HB6 := hidden hb6
              obtain ⟨L3, hL3⟩ : ∃ L3, L ++ TT = L3 := ⟨_, rfl⟩
              rw [hL3] at HB6 HL3 HLT
              clear hb6 hL3
              go_wp2_with fail
              clear hilt d0
              go_loopw [57] (fun i wr => ∃ (k : Nat) (L : List Int), i = .int .i64 k ∧ k ≤ n ∧ Hid (Bld wT (.slice ta K tc) L wr) ∧ Hid (L = L3 ++ (l.take k).flatMap fun y => y.s.bytes) ∧ L.length ≤ 1578 + 48 * k) (fun i _ => n - (intOf i).toNat)
              case atStart => exact ⟨0, L3, rfl, Nat.zero_le _, HB6, (by show _ = _; simp), by have := HLT.out; omega⟩
              case round =>
                clear HB6
                obtain ⟨k, L, rfl, hk, hb, hL, hLs⟩ := hrel
                by_cases hlt : k < n
                · have hilt : (k : Int) < (n : Int) := by omega
                  have hkl : k < l.length := by rw [← HN.out]; exact hlt
                  have hsx := H1.out.below ((HOW.out wr hb.out.below).mono HB.out)
                  obtain ⟨b, off, rfl, hbB, hp⟩ := hsx.at_ hkl
                  obtain ⟨y, hy⟩ : ∃ y, l[k] = y := ⟨_, rfl⟩
                  rw [hy] at hp
                  obtain ⟨p0, p1, p2, p3, p4, p5⟩ := hp
                  have hy2 : l[k]? = some y := by rw [List.getElem?_eq_getElem hkl, hy]
                  have hym : y ∈ l := by rw [← hy]; exact List.getElem_mem hkl
                  obtain ⟨-, hy48, -, -, -, -⟩ := HSEC.out y hym
                  have hib : Ints (wr.alloc (.cells #[.string y.s.name, .int .i64 y.s.kind, .int .i64 y.s.align, .slice y.a1 y.s.bytes.length y.c1, .int .i64 y.s.size, .slice y.a2 y.s.fixs.length y.c2] 51)) .u8 (wr.alloc (.cells #[.string y.s.name, .int .i64 y.s.kind, .int .i64 y.s.align, .slice y.a1 y.s.bytes.length y.c1, .int .i64 y.s.size, .slice y.a2 y.s.fixs.length y.c2] 51)).heap.size y.a1 y.s.bytes := ((hsx.bytes y hym).more (Nat.le_trans HB.out (HOW.out wr hb.out.below).size)).alloc (Nat.le_refl _) _ |>.more (by simp)
                  have HPS := hidden (putBytes_bld wT (wr.alloc (.cells #[.string y.s.name, .int .i64 y.s.kind, .int .i64 y.s.align, .slice y.a1 y.s.bytes.length y.c1, .int .i64 y.s.size, .slice y.a2 y.s.fixs.length y.c2] 51)) (.slice ta K tc) L (hb.out.alloc _) y.a1 y.s.bytes.length y.c1 y.s.bytes rfl hib (by omega))
                  have HLN : Hid (L ++ y.s.bytes = L3 ++ (l.take (k + 1)).flatMap fun y => y.s.bytes) := by show _ = _; rw [hL.out, flat_snoc (fun y => y.s.bytes) hy2, List.append_assoc]
                  have hLN : (L ++ y.s.bytes).length ≤ 1578 + 48 * (k + 1) := by rw [List.length_append]; omega
                  have HLNs := hidden hLN
                  clear hy hy2 hkl hym hb hL hLN hsx hy48 hib
                  go_wp2_with fail
                  refine HPS.out.mono ?_
                  clear HPS
                  rintro e w5 ⟨rfl, hb5, -⟩
                  have HB5 := hidden hb5
                  clear hb5 p0 p1 p2 p3 p4 p5
                  go_wp2_with fail
                  go_roundw
                  case rel => exact ⟨k + 1, _, by go_num, by omega, HB5, HLN, HLNs.out⟩
                  case measure => simp [intOf]; omega
                · have hilt : ¬ (k : Int) < (n : Int) := by omega
                  have HE : Hid (L = R) := by
                    show _ = _
                    have e : l.take k = l := List.take_of_length_le (by rw [← HN.out]; omega)
                    rw [hL.out, e, HL3.out, HRR.out]
                  obtain ⟨v, hh, hrow⟩ := hb.out.row
                  have e1 : wr.cell? ⟨wT.heap.size, 1, none⟩ = some v := hh.cell 1
                  have HF : Hid (RowB w R (.returned v) wr) := by
                    rw [HE.out] at hrow
                    exact ⟨v, rfl, hrow.lower (Nat.le_trans HBT.out.size (Nat.le_succ _)), HOW.out wr hb.out.below⟩
                  clear hh hrow hb hL HE hlt hk hLs
                  go_wp2_with fail
                  go_ret
                  exact HF.out
theorem wantWriteObject (want : WantNameTable) : WantWriteObject := fun w B a1 a2 c1 c2 l ms h1 h2 hB hlen hlem hl hs => writeObject_any want w B a1 a2 c1 c2 _ _ l ms rfl rfl h1 h2 hB hlen hlem hl hs
end Go.Proofs.YtjafekjcncmjjaaGreat

import Derived.Deep.QuietTactic
import Derived.BigQuiet
import Derived.Test.YtpfombelhajmlaaGreatDoorSbI
import Derived.Test.YtpfombelhajmlaaGreatDoorLawD1
import Derived.Test.YtpfombelhajmlaaGreatDoorShelf
namespace Go.Proofs.YtpfombelhajmlaaGreatDoor
open Go.RowKit
theorem sbLies : liesAt Tryz.prog Tryz.prog.depth 47 (2 / Tryz.prog.cellsOf 47) 0 47 1 = true := by kernel_rfl
theorem hexAt8 (W : World) (d : Int) (h0 : 0 ≤ d) (h1 : d < 16) : (Instr.index 9 (.string ⟨#[48, 49, 50, 51, 52, 53, 54, 55, 56, 57, 97, 98, 99, 100, 101, 102]⟩) (.int .u8 d)).run Tryz.prog W = .ok (.int .u8 (hexD d)) W := by
  have hc : d = 0 ∨ d = 1 ∨ d = 2 ∨ d = 3 ∨ d = 4 ∨ d = 5 ∨ d = 6 ∨ d = 7 ∨ d = 8 ∨ d = 9 ∨ d = 10 ∨ d = 11 ∨ d = 12 ∨ d = 13 ∨ d = 14 ∨ d = 15 := by omega
  rcases hc with rfl | rfl | rfl | rfl | rfl | rfl | rfl | rfl | rfl | rfl | rfl | rfl | rfl | rfl | rfl | rfl <;> (clear h0 h1; show _ = _; kernel_rfl)
theorem hexD_byte {d : Int} (h0 : 0 ≤ d) (h1 : d < 16) : 0 ≤ hexD d ∧ hexD d < 256 := by unfold hexD; split <;> omega
set_option maxRecDepth 100000 in
set_option maxHeartbeats 2000000 in
theorem hexText_any (w : World) (B : Nat) (a : Option Addr) (c : Nat) (l : List Int) (h : Ints w .u8 B a l) (hB : B ≤ w.heap.size) (hlen : l.length ≤ 2000000) :
    Calls Tryz.prog 57 #[.slice a l.length c] w fun e w' => e = .returned (.string (strOfNums (hexL l))) ∧ Below w.heap.size w w' := by
  obtain ⟨n, hn⟩ : ∃ n, l.length = n := ⟨_, rfl⟩
  rw [hn]
  have HI := hidden (fun (W : World) (hW : Below w.heap.size w W) => h.below (hW.mono hB))
  have HN := hidden hn
  have HS := hidden (fun (W : World) (d : Int) (h0 : 0 ≤ d) (h1 : d < 16) => hexAt8 W d h0 h1)
  have HS0 : Hid (Sb (w.alloc (.cells #[.pointer none, .slice none 0 0] 47)) w.heap.size w.heap.size 0 47 #[.pointer none, .slice none 0 0] []) :=
    ⟨Has.new _ _ _, Nat.le_refl _, ⟨_, rfl, .inl rfl⟩, ⟨_, rfl, World.ownsRow_nil _ _ _ _, fun _ => rfl⟩, sbLies, by decide, fun x hx => absurd hx (by simp)⟩
  have HB0 : Hid (Below w.heap.size w (w.alloc (.cells #[.pointer none, .slice none 0 0] 47))) := (Below.refl _ _).alloc (Nat.le_refl _) _
  rw [hn] at hlen
  clear h hn
  go_enter Tryz.func57, Tryz.ntmps57
  go_wp2_with fail
  go_loopw [8] (fun i wr => ∃ (k : Nat) (cs : Array Value), i = .int .i64 k ∧ k ≤ n ∧ Hid (Sb wr w.heap.size w.heap.size 0 47 cs (hexL (l.take k))) ∧ Hid (Below w.heap.size w wr)) (fun i _ => n - (intOf i).toNat)
  case atStart => exact ⟨0, _, rfl, Nat.zero_le _, HS0.out, HB0.out⟩
  case round =>
    obtain ⟨k, cs, rfl, hk, hs, hb⟩ := hrel
    clear HS0 HB0
    by_cases hlt : k < n
    · have hi : (k : Int) < (n : Int) := by omega
      have hkl : k < l.length := by rw [HN.out]; exact hlt
      obtain ⟨b, off, rfl, hbB, hc⟩ := (HI.out wr hb.out).at_ hkl
      obtain ⟨x, hx⟩ : ∃ x, l.getD k 0 = x := ⟨_, rfl⟩
      have hxw := wf_u8.mp ((HI.out wr hb.out).wfAt hkl)
      rw [hx] at hc hxw
      have hx2 : l[k]? = some x := by rw [← hx, List.getD_eq_getElem?_getD, List.getElem?_eq_getElem hkl]; rfl
      have hL : (hexL (l.take k)).length = 2 * k := by rw [hexL_length, List.length_take]; omega
      obtain ⟨d1, hd1⟩ : ∃ d, x / 16 = d := ⟨_, rfl⟩
      obtain ⟨d2, hd2⟩ : ∃ d, x % 16 = d := ⟨_, rfl⟩
      have hb1 : 0 ≤ d1 ∧ d1 < 16 := by omega
      have hb2 : 0 ≤ d2 ∧ d2 < 16 := by omega
      have hi1 : ∀ W : World, (Instr.index 9 (.string ⟨#[48, 49, 50, 51, 52, 53, 54, 55, 56, 57, 97, 98, 99, 100, 101, 102]⟩) (.int .u8 d1)).run Tryz.prog W = .ok (.int .u8 (hexD d1)) W := fun W => HS.out W d1 hb1.1 hb1.2
      have hi2 : ∀ W : World, (Instr.index 9 (.string ⟨#[48, 49, 50, 51, 52, 53, 54, 55, 56, 57, 97, 98, 99, 100, 101, 102]⟩) (.int .u8 d2)).run Tryz.prog W = .ok (.int .u8 (hexD d2)) W := fun W => HS.out W d2 hb2.1 hb2.2
      obtain ⟨e1, he1⟩ : ∃ e, hexD d1 = e := ⟨_, rfl⟩
      obtain ⟨e2, he2⟩ : ∃ e, hexD d2 = e := ⟨_, rfl⟩
      have hw1 : 0 ≤ e1 ∧ e1 < 256 := by rw [← he1]; exact hexD_byte hb1.1 hb1.2
      have hw2 : 0 ≤ e2 ∧ e2 < 256 := by rw [← he2]; exact hexD_byte hb2.1 hb2.2
      rw [he1] at hi1
      rw [he2] at hi2
      have HN1 : Hid (hexL (l.take (k + 1)) = hexL (l.take k) ++ [e1] ++ [e2]) := by show _ = _; rw [hexL_snoc hx2, hd1, hd2, he1, he2]; simp
      have HW1 := hidden (writeByte_any wr w.heap.size w.heap.size 0 47 cs _ hs.out e1 hw1 (by rw [hL]; omega))
      obtain ⟨L, hLL⟩ : ∃ L, hexL (l.take k) = L := ⟨_, rfl⟩
      rw [hLL] at HN1 HW1 hL
      have HL := hidden hL
      clear hx hkl hs hx2 hLL hL he1 he2 hb1 hb2
      go_wp2_with fail
      refine HW1.out.mono ?_
      rintro e w1 ⟨rfl, cs1, hs1⟩
      have HB1 := hidden (hb.out.trans hs1.below)
      have HW2 := hidden (writeByte_any w1 w.heap.size w.heap.size 0 47 cs1 _ hs1.sb e2 hw2 (by rw [List.length_append, HL.out, List.length_singleton]; omega))
      clear hs1 HW1 hb
      go_wp2_with fail
      refine HW2.out.mono ?_
      rintro e w2 ⟨rfl, cs2, hs2⟩
      have HB2 := hidden (HB1.out.trans hs2.below)
      have HS2 : Hid (Sb w2 w.heap.size w.heap.size 0 47 cs2 (hexL (l.take (k + 1)))) := by show Sb _ _ _ _ _ _ _; rw [HN1.out]; exact hs2.sb
      clear hs2 HW2 HB1
      go_wp2_with fail
      go_roundw
      case rel => exact ⟨k + 1, cs2, by go_num, by omega, HS2, HB2⟩
      case measure => simp [intOf]; omega
    · have hi : ¬ (k : Int) < (n : Int) := by omega
      have hF : l.take k = l := List.take_of_length_le (by rw [HN.out]; omega)
      have hs' := hs.out
      rw [hF] at hs'
      have HST := hidden (builderString_any wr w.heap.size w.heap.size 0 47 cs _ hs')
      clear hs hs' hF
      go_wp2_with fail
      refine HST.out.mono ?_
      rintro e w1 ⟨rfl, hf⟩
      have HB1 := hidden (hb.out.trans hf.below)
      clear hf HST hb
      go_wp2_with fail
      go_ret
      exact ⟨rfl, HB1.out⟩
end Go.Proofs.YtpfombelhajmlaaGreatDoor
namespace Go.Proofs.YtpfombelhajmlaaGreatDoor
open Go.RowKit
set_option maxRecDepth 100000 in
theorem ib_digit : ∀ n : Fin 256, Lib.indexByte [48, 49, 50, 51, 52, 53, 54, 55, 56, 57, 97, 98, 99, 100, 101, 102] (UInt8.ofNat n.val) = hexV (n.val : Int) := by decide
theorem indexByte_digit {c : Int} (h0 : 0 ≤ c) (h1 : c < 256) : Lib.indexByte [48, 49, 50, 51, 52, 53, 54, 55, 56, 57, 97, 98, 99, 100, 101, 102] c.toNat.toUInt8 = hexV c := by
  have := ib_digit ⟨c.toNat, by omega⟩
  rw [show ((⟨c.toNat, by omega⟩ : Fin 256).val : Int) = c by simp; omega] at this
  exact this
set_option maxRecDepth 100000 in
theorem or_digit : ∀ a b : Fin 16, bits .or .i64 ((a.val : Int) * 16) (b.val : Int) = 16 * (a.val : Int) + (b.val : Int) := by decide
theorem or_digits {a b : Int} (h : 0 ≤ a ∧ a < 16) (k : 0 ≤ b ∧ b < 16) : bits .or .i64 (a * 16) b = 16 * a + b := by
  have := or_digit ⟨a.toNat, by omega⟩ ⟨b.toNat, by omega⟩
  rw [show ((⟨a.toNat, by omega⟩ : Fin 16).val : Int) = a by simp; omega, show ((⟨b.toNat, by omega⟩ : Fin 16).val : Int) = b by simp; omega] at this
  exact this
theorem index_any (W : World) (s : ByteArray) (k : Nat) (h : k < s.size) : (Instr.index 9 (.string s) (.int .i64 (k : Int))).run Tryz.prog W = .ok (.int .u8 ((s[k].toNat : Nat) : Int)) W := by
  rw [run_index_string W 9 s .i64 (k : Int) Tryz.underlying9]
  simp [h]
set_option maxRecDepth 100000 in
set_option maxHeartbeats 2000000 in
theorem wantReadHex : WantReadHex := by
  intro w s hs
  obtain ⟨t, ht⟩ : ∃ t, numsOf s = t := ⟨_, rfl⟩
  have HT := hidden ht
  have hlen : t.length = s.size := by rw [← ht]; exact numsOf_length s
  have HLEN := hidden hlen
  have HIX := hidden (fun (W : World) (k : Nat) (h : k < s.size) => index_any W s k h)
  have HIB : Hid (∀ (W : World) (c : Int), 0 ≤ c → c < 256 → Calls Tryz.prog 97 #[.string ⟨#[48, 49, 50, 51, 52, 53, 54, 55, 56, 57, 97, 98, 99, 100, 101, 102]⟩, .int .u8 c] W fun e w' => e = .returned (.int .i64 (hexV c)) ∧ w' = W) := fun W c h0 h1 => by
    rw [← indexByte_digit h0 h1]
    exact Tryz.strings_IndexByte _ c W
  rw [ht]
  clear ht hlen
  rcases Nat.mod_two_eq_zero_or_one s.size with hp | hp
  · have hmod : Int.tmod (s.size : Int) 2 = 0 := by rw [Int.tmod_eq_emod_of_nonneg (by omega)]; omega
    go_enter Tryz.func86, Tryz.ntmps86
    go_wp2_with fail
    go_loopw [4, 5, 6, 7] (fun v i _ _ wr => ∃ (j : Nat) (L : List Int), i = .int .i64 ((2 * j : Nat) : Int) ∧ 2 * j ≤ s.size ∧ L.length = j ∧ Hid (HexTo t L (2 * j) 0) ∧ Hid (RowI wr w.heap.size v L.length L) ∧ Hid (Below w.heap.size w wr)) (fun _ i _ _ _ => s.size - (intOf i).toNat)
    case atStart => exact ⟨0, [], rfl, Nat.zero_le _, rfl, HexTo.start t, World.ownsRow_nil _ _ _ _, Below.refl _ _⟩
    case round =>
      obtain ⟨j, L, rfl, hj, hLj, hx, hrow, hb⟩ := hrel
      obtain ⟨k, hk⟩ : ∃ k, 2 * j = k := ⟨_, rfl⟩
      rw [hk] at hj hx
      rw [hk]
      by_cases hlt : k < s.size
      · have hi : (k : Int) < (s.size : Int) := by omega
        have hlt1 : k + 1 < s.size := by omega
        obtain ⟨c1, hc1⟩ : ∃ c : Int, ((s[k].toNat : Nat) : Int) = c := ⟨_, rfl⟩
        obtain ⟨c2, hc2⟩ : ∃ c : Int, ((s[k + 1].toNat : Nat) : Int) = c := ⟨_, rfl⟩
        have ht1 : Hid (t[k]? = some c1) := by show _ = _; rw [← HT.out, ← hc1]; exact numsOf_at hlt
        have ht2 : Hid (t[k + 1]? = some c2) := by show _ = _; rw [← HT.out, ← hc2]; exact numsOf_at hlt1
        have hb1 : 0 ≤ c1 ∧ c1 < 256 := by rw [← hc1]; have := s[k].toNat_lt; omega
        have hb2 : 0 ≤ c2 ∧ c2 < 256 := by rw [← hc2]; have := s[k + 1].toNat_lt; omega
        have hx1 := fun W : World => HIX.out W k hlt
        have hx2 := fun W : World => HIX.out W (k + 1) hlt1
        rw [hc1] at hx1
        rw [hc2, show ((k + 1 : Nat) : Int) = (k : Int) + 1 by omega] at hx2
        have HI1 := hidden (fun W : World => HIB.out W c1 hb1.1 hb1.2)
        have HI2 := hidden (fun W : World => HIB.out W c2 hb2.1 hb2.2)
        obtain ⟨v1, hv1⟩ : ∃ v, hexV c1 = v := ⟨_, rfl⟩
        obtain ⟨v2, hv2⟩ : ∃ v, hexV c2 = v := ⟨_, rfl⟩
        rw [hv1] at HI1
        rw [hv2] at HI2
        have HV1 := hidden hv1
        have HV2 := hidden hv2
        clear hc1 hc2 hv1 hv2 hb1 hb2
        go_wp2_with fail
        go_quiet (first | (go_at_call 97; exact Calls.quiet_of_same (HI1.out _)) | (go_at_call 97; exact Calls.quiet_of_same (HI2.out _)))
        have HB1 := hidden (below_drewN hb.out nq)
        have HR1 : Hid (RowI (wr.drewN nq) w.heap.size u4 L.length L) := hrow.out.only (below_drewN (Below.refl _ _) nq)
        generalize wr.drewN nq = W1 at HB1 HR1 ⊢
        clear hx1 hx2 HI1 HI2 HIB HIX hb hrow
        by_cases hn1 : v1 < 0
        · have HBAD : Hid (rhx t = ([], false)) := rhx_bad (List.mem_of_getElem? ht1.out) (by rw [HV1.out]; exact hn1)
          go_wp2_with fail
          go_ret2
          exact ⟨.slice none 0 0, by rw [HBAD.out]; rfl, by rw [HBAD.out]; exact World.ownsRow_nil _ _ _ _, HB1.out⟩
        by_cases hn2 : v2 < 0
        · have HBAD : Hid (rhx t = ([], false)) := rhx_bad (List.mem_of_getElem? ht2.out) (by rw [HV2.out]; exact hn2)
          go_wp2_with fail
          go_ret2
          exact ⟨.slice none 0 0, by rw [HBAD.out]; rfl, by rw [HBAD.out]; exact World.ownsRow_nil _ _ _ _, HB1.out⟩
        have hv1 : 0 ≤ v1 ∧ v1 < 16 := ⟨by omega, by have := (hexD_V (c := c1) (by rw [HV1.out]; omega)).2; rw [HV1.out] at this; exact this⟩
        have hv2 : 0 ≤ v2 ∧ v2 < 16 := ⟨by omega, by have := (hexD_V (c := c2) (by rw [HV2.out]; omega)).2; rw [HV2.out] at this; exact this⟩
        obtain ⟨-, hxa⟩ := hx.out.toOdd (by omega) ht1.out (by rw [HV1.out]; omega)
        obtain ⟨hs0, hs1, hxb⟩ := hxa.toEven (by omega) ht2.out (by rw [HV2.out]; omega)
        rw [HV1.out, HV2.out] at hs0 hs1 hxb
        have HX2 := hidden hxb
        clear hx hxa hxb
        obtain ⟨x, hx⟩ : ∃ x : Int, 16 * v1 + v2 = x := ⟨_, rfl⟩
        have hor : bits .or .i64 (v1 * 16) v2 = x := by rw [or_digits hv1 hv2, hx]
        rw [hx] at hs0 hs1 HX2
        have hxw : IntKind.u8.wrap x = x := IntWalk.u8_in _ (by omega)
        have HROW := hidden (HR1.out.alloc (.cells #[.int .u8 x] 5))
        have hLs : L.length ≤ 600000 := by omega
        have HINT : Hid (Ints (W1.alloc (.cells #[.int .u8 x] 5)) .u8 (W1.heap.size + 1) (some ⟨W1.heap.size, 0, none⟩) [x]) := Ints.ofHas (Has.new _ _ _) rfl (by simp; exact wf_u8.mpr ⟨hs0, hs1⟩) (Nat.lt_succ_self _)
        have hbs : w.heap.size ≤ (W1.alloc (.cells #[.int .u8 x] 5)).heap.size := Nat.le_trans HB1.out.size (by simp)
        obtain ⟨N, hN⟩ : ∃ N, L.length = N := ⟨_, rfl⟩
        have HNN := hidden hN
        have HLJ := hidden hLj
        rw [hN] at HR1 HROW hLs
        obtain ⟨a4, c4, rfl⟩ : ∃ a c, u4 = .slice a N c := by
          rcases HR1.out.2 with ⟨e, h0⟩ | ⟨g, cap, cur, e, _⟩
          · exact ⟨none, 0, by rw [h0]; exact e⟩
          · exact ⟨_, _, e⟩
        clear hLj
        clear hx hN HR1
        go_wp2_with (at_builtin; refine wpList_append_ints _ rfl _ _ rfl w.heap.size _ N L rfl HROW.out (some ⟨W1.heap.size, 0, none⟩) 1 1 (W1.heap.size + 1) [x] rfl rfl HINT.out (by omega) hbs ?_)
        intro v' w' hrow' hg'
        have HB' := hidden ((HB1.out.alloc HB1.out.size (.cells #[.int .u8 x] 5)).grown hg' hbs (fun q hq => (World.ownsRow.lt HROW.out q hq).1))
        have HR' : Hid (RowI w' w.heap.size v' (L ++ [x]).length (L ++ [x])) := by show RowI _ _ _ _ _; rw [List.length_append, HNN.out]; exact hrow'
        clear hrow' hg' HROW HINT hbs
        go_wp2_with fail
        go_roundw
        case rel => exact ⟨j + 1, L ++ [x], by go_num, by omega, by rw [List.length_append, HLJ.out, List.length_singleton], by rw [show 2 * (j + 1) = k + 1 + 1 by omega]; exact HX2, HR', HB'⟩
        case measure => simp [intOf]; omega
      · have hks : k = s.size := by omega
        have hi : ¬ (k : Int) < (s.size : Int) := by omega
        have HF : Hid (rhx t = (L, true)) := by
          obtain ⟨_, _, h3⟩ := hx.out.even (by omega)
          have e : t.take k = t := List.take_of_length_le (by rw [HLEN.out]; omega)
          show _ = _
          rw [← e, h3, rhx_yes hx.out.wf]
        clear hx
        go_wp2_with fail
        go_ret2
        exact ⟨_, by rw [HF.out]; rfl, by rw [HF.out]; exact hrow.out, hb.out⟩
  · have hmod : Int.tmod (s.size : Int) 2 = 1 := by rw [Int.tmod_eq_emod_of_nonneg (by omega)]; omega
    have HF : Hid (rhx t = ([], false)) := rhx_odd (k := s.size / 2) (by rw [HLEN.out]; omega)
    go_enter Tryz.func86, Tryz.ntmps86
    go_wp2_with fail
    go_ret2
    exact ⟨.slice none 0 0, by rw [HF.out]; rfl, by rw [HF.out]; exact World.ownsRow_nil _ _ _ _, Below.refl _ _⟩
end Go.Proofs.YtpfombelhajmlaaGreatDoor

import Derived.Test.YtpfombelhajmlaaGreatDoorSpD
import Derived.Test.YtpfombelhajmlaaGreatDoorRdH
import Derived.Test.YtpfombelhajmlaaGreatDoorLawD4
import Derived.Test.YtpfombelhajmlaaGreatDoorMarkR
import Derived.Test.YtpfombelhajmlaaGreatDoorMarkS
import Derived.Test.YtpfombelhajmlaaGreatDoorToS
import Derived.Test.YtpfombelhajmlaaGreatDoorWant4
import Derived.Deep.RegionWith
namespace Go.Proofs.YtpfombelhajmlaaGreatDoor
open Go.RowKit
theorem nameE_short {s : ByteArray} (h : nameOk s.data.toList = true) : s.size ≤ 8 := by
  have := ((nameOk_iff _).1 h).1.2
  rw [Array.length_toList] at this
  exact this
theorem okE_fits {l : List Sp} {ms : List Sm} (h : objOk (l.map Sp.s) ms = true) : (∀ y ∈ l, y.s.fits) ∧ ∀ x ∈ ms, x.fits := by
  have ht := objOk_told h
  refine ⟨fun y hy => ?_, fun x hx => ?_⟩
  · have hs := ht.sec y hy
    obtain ⟨p1, p2, p3, _⟩ := sect_parts hs
    obtain ⟨k1, k2, k3⟩ := sect_bytes hs
    have hz : 0 ≤ y.s.size ∧ y.s.size ≤ 48 := by
      unfold sectOk at hs
      simp only [Bool.and_eq_true, decide_eq_true_eq] at hs
      exact hs.1.2
    have hm := ht.syms
    refine ⟨by have := nameE_short p1; unfold maxLen; omega, ⟨by omega, by omega⟩, ⟨by omega, by omega⟩, ⟨by omega, by omega⟩, by omega, by omega, fun f hf => ?_⟩
    obtain ⟨q1, q2, q3, q4⟩ := k3 f hf
    exact ⟨⟨by omega, by omega⟩, ⟨by omega, by omega⟩, ⟨by omega, by omega⟩, ⟨by omega, by omega⟩⟩
  · have hs := ht.sym x hx
    obtain ⟨b1, b2⟩ := sym_bytes ht hx
    have hv := sym_value ht hx
    have hn : nameOk x.name.data.toList = true := by
      unfold symOk at hs
      simp only [Bool.and_eq_true] at hs
      exact hs.1.1
    exact ⟨by have := nameE_short hn; unfold maxLen; omega, ⟨by omega, by omega⟩, ⟨by omega, by omega⟩, ⟨by omega, by omega⟩⟩
theorem ReadD.own {w : World} {t : List (List Int)} {e : Ending} {w' : World} (h : ReadD w t e w') : ∃ (ok : Bool) (ss : List Sp) (ms : List Sm) (a1 a2 : Option Addr) (c1 c2 : Nat), e = .returned (.tuple #[.agg #[.slice a1 ss.length c1, .slice a2 ms.length c2], .bool ok]) ∧
    (ok = true → rdD t = some (ss.map Sp.s, ms)) ∧ (ok = false → rdD t = none ∧ ss = [] ∧ ms = []) ∧ OwnR w' w.heap.size a1 a2 ss.length ms.length c1 c2 ss ms ∧ Below w.heap.size w w' := by
  obtain ⟨hb, ⟨hr, he⟩ | ⟨ss, ms, a1, a2, c1, c2, hr, he, hs, hm⟩⟩ := h
  · exact ⟨false, [], [], none, none, 0, 0, he, (fun e => by cases e), (fun _ => ⟨hr, rfl, rfl⟩), ⟨hb.size, rfl, rfl, SR.nil _ _, World.ownsRow_nil _ _ _ _⟩, hb⟩
  · exact ⟨true, ss, ms, a1, a2, c1, c2, he, fun _ => hr, (fun e => by cases e), ⟨hb.size, rfl, rfl, hs, hm⟩, hb⟩
theorem readD_same {t : List (List Int)} {ok ok' : Bool} {ss ss' : List Sp} {ms ms' : List Sm} (h1 : ok = true → rdD t = some (ss.map Sp.s, ms)) (h2 : ok = false → rdD t = none ∧ ss = [] ∧ ms = []) (h3 : ok' = true → rdD t = some (ss'.map Sp.s, ms')) (h4 : ok' = false → rdD t = none ∧ ss' = [] ∧ ms' = []) :
    ok = ok' ∧ ss.map Sp.s = ss'.map Sp.s ∧ ms = ms' := by
  rcases ok with _ | _ <;> rcases ok' with _ | _
  · obtain ⟨_, r1, r2⟩ := h2 rfl
    obtain ⟨_, r3, r4⟩ := h4 rfl
    rw [r1, r2, r3, r4]; exact ⟨rfl, rfl, rfl⟩
  · have q1 := (h2 rfl).1; have q2 := h3 rfl; rw [q1] at q2; cases q2
  · have q1 := h1 rfl; have q2 := (h4 rfl).1; rw [q1] at q2; cases q2
  · have q1 := h1 rfl
    have q2 := h3 rfl
    rw [q1] at q2
    injection q2 with q2
    injection q2 with q2 q3
    exact ⟨rfl, q2, q3⟩
theorem readD_few {t : List (List Int)} {ok : Bool} {ss : List Sp} {ms : List Sm} (h1 : ok = true → rdD t = some (ss.map Sp.s, ms)) (h2 : ok = false → rdD t = none ∧ ss = [] ∧ ms = []) : ss.length ≤ 8 ∧ ms.length ≤ 12 ∧ (∀ y ∈ ss, y.s.fits) ∧ startS ss ss.length ≤ 1000000 := by
  rcases ok with _ | _
  · obtain ⟨_, rfl, rfl⟩ := h2 rfl
    simp [startS]
  · have hk := (rdD_some (h1 rfl)).1
    have ht := objOk_told hk
    refine ⟨ht.secs, ht.syms, (okE_fits hk).1, ?_⟩
    have hc : ∀ q : List Sp, (∀ y ∈ q, costS y ≤ 1000) → (q.map costS).sum ≤ 1000 * q.length := by
      intro q
      induction q with
      | nil => intro _; simp
      | cons z r ih =>
        intro hq
        have h1 := hq z (by simp)
        have h2 := ih (fun u hu => hq u (by simp [hu]))
        rw [List.map_cons, List.sum_cons, List.length_cons]
        omega
    have := hc ss (fun y hy => by obtain ⟨_, p2, p3, _⟩ := sect_parts (ht.sec y hy); unfold costS; omega)
    unfold startS
    rw [List.take_length]
    have := ht.secs
    omega
theorem vals_own {w : World} {g : Nat} {S : List ByteArray} (h : Has w g 9 (S.map Value.string).toArray) : Vals w (g + 1) (some ⟨g, 0, none⟩) (S.map Value.string) := fun _ =>
  ⟨g, 0, rfl, Nat.lt_succ_self _, fun i u hi => by rw [Nat.zero_add, h.cell]; simpa using hi⟩
set_option maxRecDepth 100000 in
set_option maxHeartbeats 8000000 in
theorem law_ExactReadDump (w : World) (hE : Libs w) (a : Option Addr) (cap n : Nat) (S : List ByteArray) (hn : n = S.length) (h : Vals w w.heap.size a (S.map Value.string)) (hmax : n ≤ 9223372036854775807) (hs : ∀ s ∈ S, s.size ≤ maxLen) :
    Calls Tryz.prog 5 #[.slice a n cap] w fun e w' => e = .returned (.bool true) ∧ Below w.heap.size w w' := by
  have HSZ := hidden (szStringS_any w w.heap.size a cap n S hn h hmax hs 1048576 (by omega) (by omega))
  have HTB0 : Hid (n ≤ 1048576 → ∀ W, Below w.heap.size w W → Calls Tryz.prog 17 #[.slice a n cap] W fun e w' => e = .returned (.slice (some ⟨W.heap.size, 0, none⟩) n n) ∧ Has w' W.heap.size 9 (S.map Value.string).toArray ∧ Below W.heap.size W w') := fun h20 W hB => toStringS_any W w.heap.size a cap n S hn (h.below hB) hB.size h20
  have HSP0 : Hid (n ≤ 1048576 → (∀ s ∈ S, s.size ≤ 1048576) → ∀ (W : World) (k : Nat), Has W k 9 (S.map Value.string).toArray → Calls Tryz.prog 15 #[.slice (some ⟨k, 0, none⟩) n n] W (ReadD W (S.map numsOf))) := fun h20 hz W k hk => readDump'_any W (k + 1) (some ⟨k, 0, none⟩) n n S hn (vals_own hk) hk.lt h20 hz
  have HE := hidden (fun (W : World) (hW : Below w.heap.size w W) => hE.below hW hE.lt)
  have HIM0 : Hid (n ≤ 1048576 → (∀ s ∈ S, s.size ≤ 1048576) → ∀ (W : World) (k : Nat), Libs W → Has W k 9 (S.map Value.string).toArray → Calls Tryz.prog 12 #[.slice (some ⟨k, 0, none⟩) n n] W (ReadD W (S.map numsOf))) := fun h20 hz W k hq hk => readDump_any W hq (k + 1) (some ⟨k, 0, none⟩) n n S hn (vals_own hk) hk.lt h20 hz
  have HEB : Hid (∀ (W : World) (k k' : Nat), Has W k 9 (S.map Value.string).toArray → Has W k' 9 (S.map Value.string).toArray → Calls Tryz.prog 19 #[.slice (some ⟨k, 0, none⟩) n n, .slice (some ⟨k', 0, none⟩) n n] W fun e w' => e = .returned (.bool true) ∧ ∃ n, w' = W.drewN n) := fun W k k' hk hk' =>
    eqStringS_yes W (k + 1) (k' + 1) (some ⟨k, 0, none⟩) (some ⟨k', 0, none⟩) n n n S hn (vals_own hk) (vals_own hk') hmax
  have HMB0 : Hid (n ≤ 1048576 → ∀ (W : World) (k : Nat), Has W k 9 (S.map Value.string).toArray → Calls Tryz.prog 20 #[.slice (some ⟨k, 0, none⟩) n n, .int .i64 1] W fun e w' => e = .returned (.int .i64 (1 + n)) ∧ W.grownBy w' (some k)) := fun h20 W k hk =>
    markStringS_own W k n n (S.map Value.string).toArray 1 hk (by rw [hn]; exact TextsS.of S) (by omega) (by omega)
  have HLN := hidden hn
  clear h hs hE hn hmax
  go_enter Tryz.func5, Tryz.ntmps5
  go_wp2_with fail
  refine HSZ.out.mono ?_
  clear HSZ
  rintro e _ ⟨r, rfl, rfl, hr0, hr1, hr2⟩
  by_cases hneg : r < 0
  · clear hr2
    go_wp2_with fail
    go_ret
    exact ⟨rfl, Below.refl _ _⟩
  obtain ⟨hr3, hr4⟩ := hr2 (by omega)
  have h20 : n ≤ 1048576 := by rw [HLN.out]; omega
  have hz : ∀ s ∈ S, s.size ≤ 1048576 := fun s hs => by have := hr4 s hs; omega
  have HTB := hidden (HTB0.out h20)
  have HSP := hidden (HSP0.out h20 hz)
  have HIM := hidden (HIM0.out h20 hz)
  have HMB := hidden (HMB0.out h20)
  clear hr2 hr3 hr4 hz HTB0 HSP0 HIM0 HMB0 HLN
  go_wp2_with fail
  refine (HTB.out w (Below.refl _ _)).mono ?_
  rintro e w1 ⟨rfl, hh1, hb1⟩
  have HS1 := hidden (HSP.out w1 _ hh1)
  have HB1 := hidden hb1
  clear HSP hh1 hb1
  go_wp2_with fail
  refine HS1.out.mono ?_
  clear HS1
  intro e w2 hr
  obtain ⟨ok, ssW, ms, e1, e2, g1, g2, he, hyW, hnW, hoW, hb2⟩ := hr.own
  subst he
  obtain ⟨n1, hn1⟩ : ∃ q, ssW.length = q := ⟨_, rfl⟩
  obtain ⟨m1, hm1⟩ : ∃ q, ms.length = q := ⟨_, rfl⟩
  have hfew := readD_few hyW hnW
  rw [hn1, hm1] at hoW hfew
  rw [hn1, hm1]
  have HYW := hidden hyW
  have HNW := hidden hnW
  have HN1 := hidden hn1
  have HM1 := hidden hm1
  have HFEW := hidden hfew
  have HOW : Hid (∀ W, Below w2.heap.size w2 W → Sects W w2.heap.size e1 ssW ∧ Syms W w2.heap.size e2 ms) := fun W hW => ⟨hoW.sects.below hW, hoW.syms'.below hW⟩
  have HB2 := hidden (HB1.out.trans (hb2.mono HB1.out.size))
  have hX2 : Has (w2.alloc (.cells #[.slice e1 n1 g1, .slice e2 m1 g2] 26)) w2.heap.size 26 #[.slice e1 n1 g1, .slice e2 m1 g2] := Has.new _ _ _
  have hb2a : Below w2.heap.size w2 (w2.alloc (.cells #[.slice e1 n1 g1, .slice e2 m1 g2] 26)) := (Below.refl _ _).alloc (Nat.le_refl _) _
  obtain ⟨wa, hwa⟩ : ∃ q, w2.alloc (.cells #[.slice e1 n1 g1, .slice e2 m1 g2] 26) = q := ⟨_, rfl⟩
  rw [hwa] at hX2 hb2a
  have HXA := hidden hX2
  have HBA := hidden hb2a
  have HWA := hidden hwa
  have HT3 := hidden (HTB.out wa (HB2.out.trans (hb2a.mono HB2.out.size)))
  clear hr hyW hnW hn1 hm1 hfew hoW hb2 hX2 hb2a hwa HB1
  go_upto_region 6 with fail
  rw [HWA.out]
  go_wp2_with fail
  refine HT3.out.mono ?_
  clear HT3 HWA
  rintro e w3 ⟨rfl, hh3, hb3⟩
  obtain ⟨x, hx⟩ : ∃ q, wa.heap.size = q := ⟨_, rfl⟩
  rw [hx] at hh3 ⊢
  have hxl : x < w3.heap.size := hh3.lt
  have hx2 : w2.heap.size < x := by rw [← hx]; exact HXA.out.lt
  have HX3 := hidden (HXA.out.below hb3 HXA.out.lt)
  have HB3 := hidden (HBA.out.trans (hb3.mono HBA.out.size))
  have HH3 := hidden hh3
  have HI3 := hidden (HIM.out w3 _ (HE.out w3 (HB2.out.trans (HB3.out.mono HB2.out.size))) hh3)
  clear hh3 hb3 hx HXA HBA
  go_wp2_with fail
  refine HI3.out.mono ?_
  clear HI3
  intro e w4 hr
  obtain ⟨ok', ss, ms', a1, a2, c1, c2, he, hy, hnn, ho, hb4⟩ := hr.own
  subst he
  obtain ⟨rfl, hsm, rfl⟩ := readD_same HYW.out HNW.out hy hnn
  have hn1 : ss.length = n1 := by have := congrArg List.length hsm; rw [List.length_map, List.length_map] at this; rw [← this]; exact HN1.out
  rw [hn1, HM1.out] at ho
  rw [hn1, HM1.out]
  have hfew := readD_few hy hnn
  rw [hn1, HM1.out] at hfew
  have HSM := hidden hsm
  have HO := hidden ho
  have HF2 := hidden hfew
  have HNN := hidden hn1
  obtain ⟨lo, hlo⟩ : ∃ q, w3.heap.size = q := ⟨_, rfl⟩
  rw [hlo] at HO hxl
  have hb4a : Below w4.heap.size w4 (w4.alloc (.cells #[.slice a1 n1 c1, .slice a2 m1 c2] 26)) := (Below.refl _ _).alloc (Nat.le_refl _) _
  have hX4 : Has (w4.alloc (.cells #[.slice a1 n1 c1, .slice a2 m1 c2] 26)) w4.heap.size 26 #[.slice a1 n1 c1, .slice a2 m1 c2] := Has.new _ _ _
  obtain ⟨wb, hwb⟩ : ∃ q, w4.alloc (.cells #[.slice a1 n1 c1, .slice a2 m1 c2] 26) = q := ⟨_, rfl⟩
  rw [hwb] at hb4a hX4
  have hlo4 : lo ≤ w4.heap.size := by rw [← hlo]; exact hb4.size
  have hbb : Below w3.heap.size w3 wb := hb4.trans (hb4a.mono hb4.size)
  have HGB := hidden (HO.out.below hb4a)
  have HXG := hidden hX4
  have HXW := hidden (HX3.out.below hbb HX3.out.lt)
  have HHB := hidden (HH3.out.below hbb HH3.out.lt)
  have HBB := hidden (HB3.out.trans (hbb.mono HB3.out.size))
  have HEQ : Hid (∀ (W : World) (ss' : List Sp) (p1 p2 : Option Addr) (d1 d2 lo' : Nat), ssW.map Sp.s = ss'.map Sp.s → OwnR W lo' p1 p2 n1 m1 d1 d2 ss' ms → Below w2.heap.size w2 W → Calls Tryz.prog 18 #[.agg #[.slice p1 n1 d1, .slice p2 m1 d2], .agg #[.slice e1 n1 g1, .slice e2 m1 g2]] W fun e w' => e = .returned (.bool true) ∧ Below W.heap.size W w') := fun W ss' p1 p2 d1 d2 lo' he hg hb => by
    obtain ⟨k1, k2⟩ := HOW.out W hb
    have hl8 := HFEW.out
    exact eqObject_yes W W.heap.size w2.heap.size p1 p2 e1 e2 d1 d2 g1 g2 n1 m1 ss' ssW ms he.symm (by have := congrArg List.length he; rw [List.length_map, List.length_map] at this; rw [← this]; exact HN1.out.symm) HM1.out.symm hg.sects hg.syms' k1 k2 (Nat.le_refl _) hb.size (by omega) (by omega) (fun y hy => (fits_same he.symm HFEW.out.2.2.1 y hy).lens)
  have HE1 := hidden (HEQ.out wb ss a1 a2 c1 c2 lo HSM.out HGB.out HBB.out)
  have HWB := hidden hwb
  clear hr hy hnn ho hb4 hsm hn1 hlo hb4a hX4 hwb hbb HX3 HH3 HB3 HO hfew
  go_upto_region 8 with fail
  rw [HWB.out]
  clear HWB
  have q0 : wb.cell? ⟨w4.heap.size, 0, none⟩ = some (.slice a1 n1 c1) := HXG.out.cell 0
  have q1 : wb.cell? ⟨w4.heap.size, 1, none⟩ = some (.slice a2 m1 c2) := HXG.out.cell 1
  have q2 : wb.cell? ⟨w2.heap.size, 0, none⟩ = some (.slice e1 n1 g1) := HXW.out.cell 0
  have q3 : wb.cell? ⟨w2.heap.size, 1, none⟩ = some (.slice e2 m1 g2) := HXW.out.cell 1
  have hrr : (ok != ok) = false := by simp
  go_wp2_with fail
  refine HE1.out.mono ?_
  clear HE1 q0 q1 q2 q3
  rintro e w5 ⟨rfl, hb5⟩
  have HG5 := hidden (HGB.out.below hb5)
  have HXG5 := hidden (HXG.out.below hb5 HXG.out.lt)
  have HXW5 := hidden (HXW.out.below hb5 HXW.out.lt)
  have HH5 := hidden (HHB.out.below hb5 HHB.out.lt)
  have HB5 := hidden (HBB.out.trans (hb5.mono HBB.out.size))
  have HT5 := hidden (HTB.out w5 (HB2.out.trans (HB5.out.mono HB2.out.size)))
  clear hb5 HGB HXG HXW HHB HBB
  go_wp2_with fail
  refine HT5.out.mono ?_
  clear HT5
  rintro e w6 ⟨rfl, hh6, hb6⟩
  have HE6 := hidden (HEB.out w6 x _ (HH5.out.below hb6 HH5.out.lt) hh6)
  have HG6 := hidden (HG5.out.below hb6)
  have HXG6 := hidden (HXG5.out.below hb6 HXG5.out.lt)
  have HXW6 := hidden (HXW5.out.below hb6 HXW5.out.lt)
  have HH6 := hidden (HH5.out.below hb6 HH5.out.lt)
  have HB6 := hidden (HB5.out.trans (hb6.mono HB5.out.size))
  clear hh6 hb6 HG5 HXG5 HXW5 HH5 HB5
  go_wp2_with fail
  refine HE6.out.mono ?_
  clear HE6
  rintro e _ ⟨rfl, z, rfl⟩
  obtain ⟨w7, hw7⟩ : ∃ q, w6.drewN z = q := ⟨_, rfl⟩
  have hb7 : Below w6.heap.size w6 w7 := by rw [← hw7]; exact below_drewN (Below.refl _ _) z
  rw [hw7]
  have HM7 := hidden (HMB.out w7 x (HH6.out.below hb7 HH6.out.lt))
  have HG7 := hidden (HG6.out.below hb7)
  have HXG7 := hidden (HXG6.out.below hb7 HXG6.out.lt)
  have HXW7 := hidden (HXW6.out.below hb7 HXW6.out.lt)
  have HB7 := hidden (HB6.out.trans (hb7.mono HB6.out.size))
  clear hw7 hb7 HG6 HXG6 HXW6 HH6 HB6 HEB
  go_wp2_with fail
  refine HM7.out.mono ?_
  clear HM7
  rintro e w8 ⟨rfl, hg8⟩
  have HG8 := hidden (HG7.out.under hxl hg8)
  have hXG8 := HXG7.out.grown hg8 (fun e => by injection e with e; omega)
  have hXW8 := HXW7.out.grown hg8 (fun e => by injection e with e; omega)
  have hB8 := HB7.out.grown hg8 HB7.out.size (fun q hq => by injection hq with hq; omega)
  have HE8 := hidden (HEQ.out w8 ss a1 a2 c1 c2 lo HSM.out HG8.out hB8)
  have q0 : w8.cell? ⟨w4.heap.size, 0, none⟩ = some (.slice a1 n1 c1) := hXG8.cell 0
  have q1 : w8.cell? ⟨w4.heap.size, 1, none⟩ = some (.slice a2 m1 c2) := hXG8.cell 1
  have q2 : w8.cell? ⟨w2.heap.size, 0, none⟩ = some (.slice e1 n1 g1) := hXW8.cell 0
  have q3 : w8.cell? ⟨w2.heap.size, 1, none⟩ = some (.slice e2 m1 g2) := hXW8.cell 1
  have HXG8 := hidden hXG8
  have HXW8 := hidden hXW8
  have HB8 := hidden hB8
  have hkn : ¬ (1 + (n : Int)) < 0 := by omega
  obtain ⟨kx, hkx⟩ : ∃ q : Int, 1 + (n : Int) = q := ⟨_, rfl⟩
  rw [hkx] at hkn ⊢
  clear hg8 hXG8 hXW8 hB8 HG7 HXG7 HXW7 HB7 hkx HMB
  go_wp2_with fail
  refine HE8.out.mono ?_
  clear HE8 q0 q1 q2 q3
  rintro e w9 ⟨rfl, hb9⟩
  have hG9 := HG8.out.below hb9
  have hXG9 := HXG8.out.below hb9 HXG8.out.lt
  have q0 : w9.cell? ⟨w4.heap.size, 0, none⟩ = some (.slice a1 n1 c1) := hXG9.cell 0
  have q1 : w9.cell? ⟨w4.heap.size, 1, none⟩ = some (.slice a2 m1 c2) := hXG9.cell 1
  have HXG9 := hidden hXG9
  have HXW9 := hidden (HXW8.out.below hb9 HXW8.out.lt)
  have HB9 := hidden (HB8.out.trans (hb9.mono HB8.out.size))
  have hst : (1 : Int) + (startS ss ss.length : Nat) + 4 * (m1 : Int) ≤ 4611686018427387904 := by rw [HNN.out]; have h1 := HF2.out.2.2.2; have h2 := HF2.out.2.1; omega
  have HK9 := hidden (markObject_wide w9 lo n1 m1 c1 c2 a1 a2 ss 1 HNN.out.symm hG9.resO (by omega) hst)
  obtain ⟨R, hR⟩ : ∃ R : Int, (1 : Int) + (startS ss ss.length : Nat) + 4 * (m1 : Int) = R := ⟨_, rfl⟩
  have hR0 : 0 ≤ R := by omega
  have HH9 : Hid (∀ W, MarkedO W lo a1 a2 ss m1 1 → Calls Tryz.prog 22 #[.agg #[.slice a1 n1 c1, .slice a2 m1 c2], .int .i64 1] W fun e w' => e = .returned (.int .i64 R) ∧ Below W.heap.size W w') := fun W hW => by
    have := heldObject_wide W lo n1 m1 c1 c2 a1 a2 ss 1 HNN.out.symm hW (by omega) hst
    rwa [hR] at this
  rw [hR] at HK9
  clear hb9 hG9 hXG9 HG8 HXG8 HXW8 HB8 hst hR
  go_wp2_with fail
  refine HK9.out.mono ?_
  clear HK9 q0 q1
  rintro e w10 ⟨rfl, hmk, hb10, hkp⟩
  have hlow : w2.heap.size ≤ lo := by omega
  have hXG10 := hkp _ _ _ (by decide) (by decide) (by decide) (by decide) HXG9.out
  have HXW10 := hidden (hkp _ _ _ (by decide) (by decide) (by decide) (by decide) HXW9.out)
  have HB10 := hidden (HB9.out.trans (hb10.mono hlow))
  have HK10 := hidden hmk
  have HQ10 := hidden (HH9.out w10 hmk)
  have q0 : w10.cell? ⟨w4.heap.size, 0, none⟩ = some (.slice a1 n1 c1) := hXG10.cell 0
  have q1 : w10.cell? ⟨w4.heap.size, 1, none⟩ = some (.slice a2 m1 c2) := hXG10.cell 1
  have HXG10 := hidden hXG10
  have hR1 : ¬ R < 0 := by omega
  clear hmk hb10 hkp hXG10 HXG9 HXW9 HB9
  go_wp2_with fail
  refine HQ10.out.mono ?_
  clear HQ10 q0 q1
  rintro e w11 ⟨rfl, hb11⟩
  have HK11 := hidden (HK10.out.below hb11)
  have HXG11 := hidden (HXG10.out.below hb11 HXG10.out.lt)
  have HXW11 := hidden (HXW10.out.below hb11 HXW10.out.lt)
  have HB11 := hidden (HB10.out.trans (hb11.mono HB10.out.size))
  have HT11 := hidden (HTB.out w11 (HB2.out.trans (HB11.out.mono HB2.out.size)))
  clear hb11 HK10 HXG10 HXW10 HB10
  go_wp2_with fail
  refine HT11.out.mono ?_
  clear HT11
  rintro e w12 ⟨rfl, hh12, hb12⟩
  have HI12 := hidden (HIM.out w12 _ (HE.out w12 (HB2.out.trans ((HB11.out.trans (hb12.mono HB11.out.size)).mono HB2.out.size))) hh12)
  have HK12 := hidden (HK11.out.below hb12)
  have HXG12 := hidden (HXG11.out.below hb12 HXG11.out.lt)
  have HXW12 := hidden (HXW11.out.below hb12 HXW11.out.lt)
  have HB12 := hidden (HB11.out.trans (hb12.mono HB11.out.size))
  clear hh12 hb12 HK11 HXG11 HXW11 HB11 HIM HTB
  go_wp2_with fail
  refine HI12.out.mono ?_
  clear HI12
  intro e w13 hr
  obtain ⟨ok', ss', ms', u1, u2, v1, v2, he, hy, hnn, ho, hb13⟩ := hr.own
  subst he
  obtain ⟨rfl, hsm, rfl⟩ := readD_same HYW.out HNW.out hy hnn
  have hn1 : ss'.length = n1 := by have := congrArg List.length hsm; rw [List.length_map, List.length_map] at this; rw [← this]; exact HN1.out
  rw [hn1, HM1.out] at ho
  rw [hn1, HM1.out]
  have hb13a : Below w13.heap.size w13 (w13.alloc (.cells #[.slice u1 n1 v1, .slice u2 m1 v2] 26)) := (Below.refl _ _).alloc (Nat.le_refl _) _
  have hX13 : Has (w13.alloc (.cells #[.slice u1 n1 v1, .slice u2 m1 v2] 26)) w13.heap.size 26 #[.slice u1 n1 v1, .slice u2 m1 v2] := Has.new _ _ _
  obtain ⟨wc, hwc⟩ : ∃ q, w13.alloc (.cells #[.slice u1 n1 v1, .slice u2 m1 v2] 26) = q := ⟨_, rfl⟩
  rw [hwc] at hb13a hX13
  have hbc : Below w12.heap.size w12 wc := hb13.trans (hb13a.mono hb13.size)
  have HKC := hidden (HK12.out.below hbc)
  have HXGC := hidden (HXG12.out.below hbc HXG12.out.lt)
  have hXWC := HXW12.out.below hbc HXW12.out.lt
  have HBC := hidden (HB12.out.trans (hbc.mono HB12.out.size))
  have HE13 := hidden (HEQ.out wc ss' u1 u2 v1 v2 w12.heap.size hsm (ho.below hb13a) HBC.out)
  have HWC := hidden hwc
  have HX13 := hidden hX13
  have HXWC := hidden hXWC
  clear hr hy hnn ho hb13 hsm hn1 hb13a hX13 hwc hbc hXWC HK12 HXG12 HXW12 HB12
  go_upto_region 25 with fail
  rw [HWC.out]
  clear HWC
  have q0 : wc.cell? ⟨w13.heap.size, 0, none⟩ = some (.slice u1 n1 v1) := HX13.out.cell 0
  have q1 : wc.cell? ⟨w13.heap.size, 1, none⟩ = some (.slice u2 m1 v2) := HX13.out.cell 1
  have q2 : wc.cell? ⟨w2.heap.size, 0, none⟩ = some (.slice e1 n1 g1) := HXWC.out.cell 0
  have q3 : wc.cell? ⟨w2.heap.size, 1, none⟩ = some (.slice e2 m1 g2) := HXWC.out.cell 1
  go_wp2_with fail
  refine HE13.out.mono ?_
  clear HE13 q0 q1 q2 q3 HX13 HXWC
  rintro e w14 ⟨rfl, hb14⟩
  have hXG14 := HXGC.out.below hb14 HXGC.out.lt
  have HQ14 := hidden (HH9.out w14 (HKC.out.below hb14))
  have HB14 := hidden (HBC.out.trans (hb14.mono HBC.out.size))
  have q0 : w14.cell? ⟨w4.heap.size, 0, none⟩ = some (.slice a1 n1 c1) := hXG14.cell 0
  have q1 : w14.cell? ⟨w4.heap.size, 1, none⟩ = some (.slice a2 m1 c2) := hXG14.cell 1
  clear hb14 hXG14 HKC HXGC HBC HH9 HEQ
  go_wp2_with fail
  refine HQ14.out.mono ?_
  clear HQ14 q0 q1
  rintro e w15 ⟨rfl, hb15⟩
  have HFIN := hidden (HB2.out.trans ((HB14.out.trans (hb15.mono HB14.out.size)).mono HB2.out.size))
  clear hb15 HB14
  go_wp2_with fail
  go_ret
  exact ⟨rfl, HFIN.out⟩
end Go.Proofs.YtpfombelhajmlaaGreatDoor

/-
  The walk of FnKeepSections.
-/
import Derived.Test.YtjpclpjhigongaaDrawS
import Derived.Test.YtjpclpjhigongaaKepX
import Derived.Test.YtjpclpjhigongaaKepS
import Derived.Test.YtjpclpjhigongaaSamE
import Derived.Deep.RegionWith
namespace Go.Proofs.Ytjpclpjhigongaa
open Go.RowKit

theorem keptN_i64 {bs : List Bool} (h : bs.length ≤ 1000) (n : Int) : I64 (keptN bs n) := by
  unfold keptN
  have h1 : (bs.take n.toNat).countP id ≤ (bs.take n.toNat).length := List.countP_le_length
  have h2 : (bs.take n.toNat).length ≤ bs.length := by rw [List.length_take]; omega
  exact ⟨by omega, by omega⟩
theorem keepO_fits {kp : List Bool} {ss : List Sx} {ms : List Sm} (hk : kp.length ≤ 1000) (hm : ms.length ≤ 1000) (h1 : ∀ s ∈ ss, s.fits) (h2 : ∀ m ∈ ms, m.fits) : (∀ s ∈ (keepO kp ss ms).1, s.fits) ∧ ∀ m ∈ (keepO kp ss ms).2, m.fits := by
  constructor
  · intro s hs
    obtain ⟨k, _, hk2⟩ := keptS_mem _ _ s hs
    obtain ⟨s', hs', rfl⟩ := List.mem_map.1 (List.mem_of_getElem? hk2)
    have h := h1 s' hs'
    exact ⟨h.name, h.kind, h.align, h.size, h.bytes, by unfold fixTo; simpa using h.count, fun f hf => by
      unfold fixTo at hf
      obtain ⟨g, hg, rfl⟩ := List.mem_map.1 hf
      obtain ⟨q1, q2, _, q4⟩ := h.fixs g hg
      exact ⟨q1, q2, keptN_i64 (by simpa using hm) _, q4⟩⟩
  · intro m hm'
    obtain ⟨m', hm1, rfl⟩ := List.mem_map.1 hm'
    have h := h2 m' ((keptL_sub _ _).subset hm1)
    unfold reLoc
    split
    · exact ⟨h.name, h.bind, keptN_i64 hk _, h.value⟩
    · exact h
/-- The numbers of the first sections. -/
def firstN (n : Nat) : List Int := (List.range n).map fun (i : Nat) => (i : Int)
theorem firstN_length (n : Nat) : (firstN n).length = n := by unfold firstN; simp
theorem firstN_snoc (n : Nat) : firstN (n + 1) = firstN n ++ [(n : Int)] := by unfold firstN; rw [List.range_succ, List.map_append]; rfl
theorem marks_first (n : Nat) : ∀ b ∈ marksQ n (firstN n), b = true := fun b hb => by
  unfold marksQ at hb
  obtain ⟨i, hi, rfl⟩ := List.mem_map.1 hb
  rw [decide_eq_true_iff]
  unfold firstN
  exact List.mem_map.2 ⟨i, hi, rfl⟩
theorem keepR_first {ss : List Sx} {ms : List Sm} (h : objOk ss ms = true) : keepR (marksQ ss.length (firstN ss.length)) ss ms = ((ss, ms), true) := by
  have := keep_all h (marksQ_length _ _) (marks_first ss.length)
  unfold keepA at this
  unfold keepR
  split at this
  · rename_i hc
    injection this with this
    rw [if_pos hc, this]
  · cases this
theorem mem_take_next {Q : List Int} {j : Nat} {y : Int} (h : Q[j]? = some y) (x : Int) : x ∈ Q.take (j + 1) ↔ x ∈ Q.take j ∨ y = x := by
  rw [take_next h, List.mem_append, List.mem_singleton]
  constructor <;> rintro (q | q)
  · exact .inl q
  · exact .inr q.symm
  · exact .inl q
  · exact .inr q.symm
theorem count_next {l : List Bool} {k : Nat} {b : Bool} (h : l[k]? = some b) : (l.take (k + 1)).countP id = (l.take k).countP id + if b then 1 else 0 := by
  rw [take_next h, List.countP_append]
  cases b <;> simp
set_option maxRecDepth 100000 in
set_option maxHeartbeats 8000000 in
theorem law_KeepSections (w : World) (a0 : Option Addr) (len cap : Nat) (h : Came w a0 len cap) :
    Calls Try.prog 3 #[.slice a0 len cap] w fun e w' => e = .returned (.bool true) ∧ Below w.heap.size w w' := by
  obtain ⟨l0, h, rfl, hcap, hmax⟩ := h
  by_cases hbig : 1048576 < l0.length
  · have hd : (1048576 : Int) < (l0.length : Int) := by omega
    go_enter Try.func3, Try.ntmps3
    go_wp2
    go_ret
    exact ⟨rfl, Below.refl _ _⟩
  have hd : ¬ (1048576 : Int) < (l0.length : Int) := by omega
  have HD := hidden (drawKeepSections_any w a0 cap l0 h hcap hmax)
  clear h
  obtain ⟨i0, hi, hz0, hz1, hz2⟩ := info_parts Try.info_int
  go_enter Try.func3, Try.ntmps3
  go_wp2_with fail
  refine HD.out.mono ?_
  clear HD
  rintro e w1 ⟨ss, ms, Q, a1, a2, ka, c1, c2, kc, rfl, hl1, hl2, hsm, hmm, hS, hM, hQ, hQ8, hb1⟩
  have hfs : ∀ y ∈ ss, y.s.fits := fun y hy => (hsm y hy).fits'
  have hfm : ∀ x ∈ ms, x.fits := fun x hx => (hmm x hx).fits
  have hnm : ∀ y ∈ ss, y.s.name.size ≤ 1048576 := fun y hy => Nat.le_trans (hsm y hy).name (by decide)
  have hsh : ∀ y ∈ ss, y.s.short := fun y hy => by
    have q1 := (hsm y hy).name
    have q2 := (hsm y hy).bytes
    have q3 := (hsm y hy).count
    exact ⟨by omega, by omega, by omega⟩
  obtain ⟨AB, hAB⟩ : ∃ q, keepR (marksQ ss.length Q) (ss.map Sp.s) ms = q := ⟨_, rfl⟩
  obtain ⟨A, ok⟩ := AB
  obtain ⟨N, hN⟩ : ∃ q, A.1.length = q := ⟨_, rfl⟩
  obtain ⟨M, hMe⟩ : ∃ q, A.2.length = q := ⟨_, rfl⟩
  have hno : ok = false → N = 0 ∧ M = 0 := fun e => by
    unfold keepR at hAB
    split at hAB
    · injection hAB with _ q; rw [e] at q; cases q
    · injection hAB with q _; rw [← hN, ← hMe, ← q]; exact ⟨rfl, rfl⟩
  have hyes : ok = true → objOk (ss.map Sp.s) ms = true ∧ A = keepO (marksQ ss.length Q) (ss.map Sp.s) ms ∧ looseS (ms.map (inKept (marksQ ss.length Q))) (marksQ ss.length Q) (ss.map Sp.s) = false := fun e => by
    unfold keepR at hAB
    split at hAB
    · rename_i hc
      rw [Bool.and_eq_true] at hc
      injection hAB with q _
      exact ⟨hc.1, q.symm, by simpa using hc.2⟩
    · injection hAB with _ q; rw [e] at q; cases q
  have hmk : (marksQ ss.length Q).length = (ss.map Sp.s).length := by rw [marksQ_length, List.length_map]
  have HCN : Hid (ok = true → N = ((marksQ ss.length Q).take ss.length).countP id) := fun e => by
    obtain ⟨_, q, _⟩ := hyes e
    rw [List.take_of_length_le (by rw [marksQ_length]; exact Nat.le_refl _), ← hN, q]
    show (keptS _ _).length = _
    exact keptS_length _ _ (by rw [marksQ_length, List.length_map, List.length_map])
  have HAV : Hid (ok = true → objOk A.1 A.2 = true) := fun e => by
    obtain ⟨q1, q2, q3⟩ := hyes e
    rw [q2]
    exact keep_valid q1 hmk q3
  have HAF : Hid (ok = true → (∀ s ∈ A.1, s.fits) ∧ ∀ m ∈ A.2, m.fits) := fun e => by
    obtain ⟨_, q2, _⟩ := hyes e
    rw [q2]
    exact keepO_fits (by rw [marksQ_length]; omega) (by omega) (fun s hs => by obtain ⟨y, hy, rfl⟩ := List.mem_map.1 hs; exact hfs y hy) hfm
  have HOK : Hid (ok = true → objOk (ss.map Sp.s) ms = true) := fun e => (hyes e).1
  have HNO := hidden hno
  obtain ⟨ns, hns⟩ : ∃ n, ss.length = n := ⟨_, rfl⟩
  obtain ⟨nm, hnm2⟩ : ∃ n, ms.length = n := ⟨_, rfl⟩
  obtain ⟨nk, hnk⟩ : ∃ n, Q.length = n := ⟨_, rfl⟩
  rw [hns] at hAB HCN
  have HN8 : Hid (ok = true → N ≤ 8 ∧ M ≤ 20) := fun e => by
    have h1 := HAV.out e
    obtain ⟨q1, q2, _⟩ := objOk_parts h1
    rw [hN] at q1
    rw [hMe] at q2
    omega
  have HIM : Hid (∀ W, Below w1.heap.size w1 W → Calls Try.prog 6 #[.agg #[.slice a1 ns c1, .slice a2 nm c2], .slice ka nk kc] W (AnsB W A ok N M)) := fun W hB =>
    keepSections_any W w1.heap.size a1 a2 c1 c2 ns nm ss ms hns.symm hnm2.symm (hS.below hB) (hM.below hB) hB.size (by omega) (by omega) hfs hfm hnm Q ka nk kc (hQ.below hB) hnk (by omega) A ok N M hAB hN hMe
  have HSP : Hid (∀ W, Below w1.heap.size w1 W → Calls Try.prog 7 #[.agg #[.slice a1 ns c1, .slice a2 nm c2], .slice ka nk kc] W (AnsB W A ok N M)) := fun W hB =>
    keepSections'_any W w1.heap.size a1 a2 c1 c2 ns nm ss ms hns.symm hnm2.symm (hS.below hB) (hM.below hB) hB.size (by omega) (by omega) hsh (fun x hx => (hfm x hx).name) Q ka nk kc (hQ.below hB) hnk (by omega) A ok N M hAB hN hMe
  have HIA : Hid (∀ (W : World) (xa : Option Addr) (xc : Nat), Below w1.heap.size w1 W → ok = true → Vals W W.heap.size xa ((firstN ns).map (Value.int .i64)) → Calls Try.prog 6 #[.agg #[.slice a1 ns c1, .slice a2 nm c2], .slice xa ns xc] W (AnsB W (ss.map Sp.s, ms) true ns nm)) := fun W xa xc hB e hv => by
    have hke := keepR_first (HOK.out e)
    rw [List.length_map, hns] at hke
    exact keepSections_any W W.heap.size a1 a2 c1 c2 ns nm ss ms hns.symm hnm2.symm ((hS.below hB).more hB.size) ((hM.below hB).more hB.size) (Nat.le_refl _) (by omega) (by omega) hfs hfm hnm (firstN ns) xa ns xc hv (firstN_length ns) (by omega) _ true _ _ hke (by rw [List.length_map]; exact hns) hnm2
  have HSA : Hid (∀ (W : World) (L L' : List Sp) (p1 p2 r1 r2 : Option Addr) (d1 d2 z1 z2 lo lo' : Nat), L.map Sp.s = A.1 → L'.map Sp.s = A.1 → OwnR W lo p1 p2 N M d1 d2 L A.2 → OwnR W lo' r1 r2 N M z1 z2 L' A.2 → (ok = false → N = 0 ∧ M = 0) → Calls Try.prog 8 #[.agg #[.slice p1 N d1, .slice p2 M d2], .agg #[.slice r1 N z1, .slice r2 M z2]] W fun e w' => e = .returned (.bool true) ∧ Below W.heap.size W w') := fun W L L' p1 p2 r1 r2 d1 d2 z1 z2 lo lo' hL hL' h1 h2 hz => by
    have hb : N ≤ 8 ∧ M ≤ 20 ∧ ∀ y ∈ L, y.s.lens := by
      rcases hok : ok with _ | _
      · obtain ⟨e1, e2⟩ := hz hok
        refine ⟨by omega, by omega, fun y hy => ?_⟩
        have := h1.len
        rw [e1] at this
        rw [List.eq_nil_of_length_eq_zero this] at hy
        cases hy
      · obtain ⟨e1, e2⟩ := HN8.out hok
        exact ⟨e1, e2, fun y hy => ((HAF.out hok).1 y.s (by rw [← hL]; exact List.mem_map_of_mem hy)).lens⟩
    exact sameObject_yes W W.heap.size p1 r1 p2 r2 d1 z1 d2 z2 N M L L' A.2 (hL.trans hL'.symm) h1.len.symm hMe.symm h1.sects h2.sects h1.syms' h2.syms' (Nat.le_refl _) (by omega) (by omega) hb.2.2
  have HSO : Hid (∀ (W : World) (L : List Sp) (p1 p2 : Option Addr) (d1 d2 lo : Nat), Below w1.heap.size w1 W → L.map Sp.s = ss.map Sp.s → OwnR W lo p1 p2 ns nm d1 d2 L ms → Calls Try.prog 8 #[.agg #[.slice p1 ns d1, .slice p2 nm d2], .agg #[.slice a1 ns c1, .slice a2 nm c2]] W fun e w' => e = .returned (.bool true) ∧ Below W.heap.size W w') := fun W L p1 p2 d1 d2 lo hB hL h1 =>
    sameObject_yes W W.heap.size p1 a1 p2 a2 d1 c1 d2 c2 ns nm L ss ms hL h1.len.symm hnm2.symm h1.sects ((hS.below hB).more hB.size) h1.syms' ((hM.below hB).more hB.size) (Nat.le_refl _) (by omega) (by omega) (fun y hy => by
      have hm : y.s ∈ ss.map Sp.s := by rw [← hL]; exact List.mem_map_of_mem hy
      obtain ⟨z, hz, e⟩ := List.mem_map.1 hm
      rw [← e]; exact (hfs z hz).lens)
  have HOV : Hid (∀ (W : World) (L : List Sp) (p1 p2 : Option Addr) (d1 d2 lo : Nat), ok = true → L.map Sp.s = A.1 → OwnR W lo p1 p2 N M d1 d2 L A.2 → Calls Try.prog 10 #[.agg #[.slice p1 N d1, .slice p2 M d2]] W fun e w' => e = .returned (.bool true) ∧ Below W.heap.size W w') := fun W L p1 p2 d1 d2 lo e hL h1 => by
    obtain ⟨e1, e2⟩ := HN8.out e
    have := objectValid_any W W.heap.size p1 p2 d1 d2 N M L A.2 h1.len.symm hMe.symm h1.sects h1.syms' (Nat.le_refl _) (by omega) (by omega) (fun y hy => (HAF.out e).1 y.s (by rw [← hL]; exact List.mem_map_of_mem hy)) (HAF.out e).2
    rwa [hL, HAV.out e] at this
  have HQV : Hid (∀ W, Below w1.heap.size w1 W → Vals W W.heap.size ka (Q.map (Value.int .i64))) := fun W hB => (hQ.below hB).more hB.size
  have HB1 := hidden hb1
  have HNK := hidden hnk
  have hns8 : ns ≤ 8 := by omega
  have hnk8 : nk ≤ 8 := by omega
  have hok1 : (ok == ok) = true := by simp
  have hok2 : (ok != ok) = false := by simp
  rw [hns, hnm2, hnk]
  clear hl1 hl2 hsm hmm hS hM hQ hQ8 hb1 hfs hfm hnm hsh hAB hN hMe hno hyes hmk hns hnm2 hnk HOK HAF HAV
  have hbO : Below w1.heap.size w1 (w1.alloc (.cells #[.slice a1 ns c1, .slice a2 nm c2] 26)) := (Below.refl _ _).alloc (Nat.le_refl _) _
  have hO : Has (w1.alloc (.cells #[.slice a1 ns c1, .slice a2 nm c2] 26)) w1.heap.size 26 #[.slice a1 ns c1, .slice a2 nm c2] := Has.new _ _ _
  obtain ⟨W2, hW2⟩ : ∃ q, w1.alloc (.cells #[.slice a1 ns c1, .slice a2 nm c2] 26) = q := ⟨_, rfl⟩
  obtain ⟨qo, hqo⟩ : ∃ q, w1.heap.size = q := ⟨_, rfl⟩
  rw [hW2] at hbO hO
  rw [hqo] at hO
  have HO := hidden hO
  have HBO := hidden hbO
  have HW2 := hidden hW2
  have HQO := hidden hqo
  have HI := hidden (HIM.out W2 hbO)
  have x0 : W2.cell? ⟨qo, 0, none⟩ = some (.slice a1 ns c1) := hO.cell 0
  have x1 : W2.cell? ⟨qo, 1, none⟩ = some (.slice a2 nm c2) := hO.cell 1
  clear hbO hO hW2 hqo HIM hd
  go_upto_region 4 with fail
  rw [HW2.out, HQO.out]
  clear HW2
  -- the program's answer
  go_wp2_with fail
  refine HI.out.mono ?_
  clear HI x0 x1
  rintro e w3 ⟨L, p1, p2, d1, d2, rfl, hL, hown, hb3⟩
  have hX : Has (w3.alloc (.cells #[.slice p1 N d1, .slice p2 M d2] 26)) w3.heap.size 26 #[.slice p1 N d1, .slice p2 M d2] := Has.new _ _ _
  have hb3a : Below w3.heap.size w3 (w3.alloc (.cells #[.slice p1 N d1, .slice p2 M d2] 26)) := (Below.refl _ _).alloc (Nat.le_refl _) _
  obtain ⟨W3, hW3⟩ : ∃ q, w3.alloc (.cells #[.slice p1 N d1, .slice p2 M d2] 26) = q := ⟨_, rfl⟩
  obtain ⟨qx, hqx⟩ : ∃ q, w3.heap.size = q := ⟨_, rfl⟩
  rw [hW3] at hb3a
  rw [hW3, hqx] at hX
  have hb23 := hb3.trans (hb3a.mono hb3.size)
  have HB3 := hidden (HBO.out.trans (hb23.mono HBO.out.size))
  have HO3 := hidden (HO.out.below hb23 HO.out.lt)
  have HX3 := hidden hX
  have HN3 := hidden (hown.below hb3a)
  have HL := hidden hL
  have HS3 := hidden (HSP.out W3 HB3.out)
  have HW3 := hidden hW3
  have HQX := hidden hqx
  have x0 : W3.cell? ⟨qo, 0, none⟩ = some (.slice a1 ns c1) := HO3.out.cell 0
  have x1 : W3.cell? ⟨qo, 1, none⟩ = some (.slice a2 nm c2) := HO3.out.cell 1
  clear hb3 hb3a hb23 hX hown hL hW3 hqx HBO HO HSP
  go_upto_region 5 with fail
  rw [HW3.out, HQX.out]
  clear HW3 HQX
  -- the model's answer
  go_wp2_with fail
  refine HS3.out.mono ?_
  clear HS3 x0 x1
  rintro e w4 ⟨L', r1, r2, z1, z2, rfl, hL', hown', hb4⟩
  have hY : Has (w4.alloc (.cells #[.slice r1 N z1, .slice r2 M z2] 26)) w4.heap.size 26 #[.slice r1 N z1, .slice r2 M z2] := Has.new _ _ _
  have hb4a : Below w4.heap.size w4 (w4.alloc (.cells #[.slice r1 N z1, .slice r2 M z2] 26)) := (Below.refl _ _).alloc (Nat.le_refl _) _
  obtain ⟨W4, hW4⟩ : ∃ q, w4.alloc (.cells #[.slice r1 N z1, .slice r2 M z2] 26) = q := ⟨_, rfl⟩
  obtain ⟨qy, hqy⟩ : ∃ q, w4.heap.size = q := ⟨_, rfl⟩
  rw [hW4] at hb4a
  rw [hW4, hqy] at hY
  have hb34 := hb4.trans (hb4a.mono hb4.size)
  have HB4 := hidden (HB3.out.trans (hb34.mono HB3.out.size))
  have HO4 := hidden (HO3.out.below hb34 HO3.out.lt)
  have HX4 := hidden (HX3.out.below hb34 HX3.out.lt)
  have HN4 := hidden (HN3.out.below hb34)
  have HE4 := hidden (HSA.out W4 L L' p1 p2 r1 r2 d1 d2 z1 z2 _ _ HL.out hL' HN4.out (hown'.below hb4a) HNO.out)
  have HW4 := hidden hW4
  have HQY := hidden hqy
  have x0 : W4.cell? ⟨qx, 0, none⟩ = some (.slice p1 N d1) := HX4.out.cell 0
  have x1 : W4.cell? ⟨qx, 1, none⟩ = some (.slice p2 M d2) := HX4.out.cell 1
  have y0 : W4.cell? ⟨qy, 0, none⟩ = some (.slice r1 N z1) := hY.cell 0
  have y1 : W4.cell? ⟨qy, 1, none⟩ = some (.slice r2 M z2) := hY.cell 1
  clear hb4 hb4a hb34 hY hown' hL' hW4 hqy HB3 HO3 HX3 HN3 HSA
  go_upto_region 6 with fail
  rw [HW4.out, HQY.out]
  clear HW4 HQY
  go_wp2_with fail
  refine HE4.out.mono ?_
  clear HE4 x0 x1 y0 y1
  rintro e w5 ⟨rfl, hb5⟩
  have HB5 := hidden (HB4.out.trans (hb5.mono HB4.out.size))
  have HO5 := hidden (HO4.out.below hb5 HO4.out.lt)
  have HX5 := hidden (HX4.out.below hb5 HX4.out.lt)
  have HN5 := hidden (HN4.out.below hb5)
  have x0 : w5.cell? ⟨qx, 0, none⟩ = some (.slice p1 N d1) := HX5.out.cell 0
  have x1 : w5.cell? ⟨qx, 1, none⟩ = some (.slice p2 M d2) := HX5.out.cell 1
  clear hb5 HB4 HO4 HX4 HN4
  rcases ok with _ | _
  · obtain ⟨e1, e2⟩ := HNO.out rfl
    have HFI : Hid (Below w.heap.size w w5) := HB1.out.trans (HB5.out.mono HB1.out.size)
    subst e1
    subst e2
    clear HNO HCN HN8 HIA HSO HOV HQV HB1 HB5 HO5 HX5 HN5 HL hok1 hok2
    go_wp2_with (go_at_call 9; refine (alive_any _).mono ?_; rintro e _ ⟨rfl, rfl⟩)
    go_ret
    exact ⟨rfl, HFI.out⟩
  have hba : Below w5.heap.size w5 (w5.alloc (.cells #[] 3)) := (Below.refl _ _).alloc (Nat.le_refl _) _
  have HROW0 : Hid ((w5.alloc (.cells #[] 3)).ownsRow w5.heap.size 3 1 (.slice (some ⟨w5.heap.size, 0, none⟩) 0 0) 0 ((firstN 0).map (Value.int .i64))) :=
    World.ownsRow_lit (base := w5.heap.size) (e := 3) (size := 1) w5 #[] 0 (Nat.le_refl _) (by unfold maxLen; omega) rfl
  have HBA := hidden hba
  have HCA : Hid (∀ W, Below w5.heap.size w5 W → W.cell? ⟨qo, 0, none⟩ = some (.slice a1 ns c1) ∧ W.cell? ⟨qo, 1, none⟩ = some (.slice a2 nm c2)) := fun W hB => by
    have := HO5.out.below hB HO5.out.lt
    exact ⟨this.cell 0, this.cell 1⟩
  have HM0 : Hid (0 = ((marksQ ns Q).take 0).countP id) := by show _ = _; simp
  clear hba x0 x1 HO5 HNO hok1 hok2
  go_wp2_with fail
  go_loopw [9, 10, 11] (fun av mv kv wr => ∃ (k m : Nat) (ta : Option Addr) (tc : Nat), kv = .int .i64 k ∧ mv = .int .i64 m ∧ av = .slice ta k tc ∧ k ≤ ns ∧ m ≤ k ∧ Hid (m = ((marksQ ns Q).take k).countP id) ∧ Hid (Below w5.heap.size w5 wr) ∧ Hid (wr.ownsRow w5.heap.size 3 1 (.slice ta k tc) k ((firstN k).map (Value.int .i64)))) (fun _ _ kv _ => ns - (intOf kv).toNat)
  case atStart => exact ⟨0, 0, _, 0, rfl, rfl, rfl, Nat.zero_le _, Nat.le_refl _, HM0, HBA, HROW0⟩
  case round =>
    obtain ⟨k, m, ta, tc, rfl, rfl, rfl, hk, hm, hmc, hb, hrow⟩ := hrel
    clear HBA HROW0 HM0
    obtain ⟨w9, rfl⟩ : ∃ q, q = wr := ⟨_, rfl⟩
    obtain ⟨x0, x1⟩ := HCA.out w9 hb.out
    by_cases hlt : k < ns
    · have hilt : (k : Int) < (ns : Int) := by omega
      have hb1 : Below w9.heap.size w9 (w9.alloc (.cells #[.int .i64 k] 3)) := (Below.refl _ _).alloc (Nat.le_refl _) _
      have HO := hidden hrow.out
      have hs5 := hb.out.size
      go_wp2_with (at_builtin; refine wpList_append_own _ rfl _ _ 27 rfl w5.heap.size 3 i0 (.int .i64 0) 1 8 Try.underlying27 hi hz0 hz1 hz2 rfl (by decide) _ _ _ rfl (HO.out.alloc _) ⟨w9.heap.size, 0, none⟩ 1 1 [.int .i64 k] rfl rfl ?c1 ?c2 ?c3 ?c4 ?c5 ?_)
      case c1 =>
        intro t u ht
        match t, ht with
        | 0, ht => simp at ht; subst ht; simp [Addr.add]
      case c2 => intro u hu; simp at hu; subst hu; rfl
      case c3 => unfold maxLen; omega
      case c4 => omega
      case c5 => simp; omega
      intro v' W6 hown6 hgrow6 _
      obtain ⟨ta', tc', rfl⟩ := own_shape hown6
      have HROW6 : Hid (W6.ownsRow w5.heap.size 3 1 (.slice ta' (k + 1) tc') (k + 1) ((firstN (k + 1)).map (Value.int .i64))) := by
        show World.ownsRow _ _ _ _ _ _ _
        rw [firstN_snoc, List.map_append]
        exact hown6
      have hb6 : Below w5.heap.size w5 W6 := (hb.out.trans (hb1.mono hb.out.size)).grown hgrow6 (Nat.le_trans hb.out.size hb1.size) (fun q hq => (HO.out.lt q hq).1)
      obtain ⟨b, hbk⟩ : ∃ q, (marksQ ns Q)[k]? = some q := ⟨_, marksQ_at hlt⟩
      have hbd : b = decide ((k : Int) ∈ Q) := by
        have := marksQ_at (Q := Q) hlt
        rw [hbk] at this
        exact Option.some.inj this
      have HMC : Hid (m + (if b then 1 else 0) = ((marksQ ns Q).take (k + 1)).countP id) := by
        show _ = _
        rw [count_next hbk, ← hmc.out]
      have HBD := hidden hbd
      have HB6 := hidden hb6
      have HQW := hidden (HQV.out W6 (HB5.out.trans (hb6.mono HB5.out.size)))
      clear hown6 hgrow6 hb1 hb6 HO hrow hmc hbk hbd x0 x1 hb
      go_wp2_with fail
      clear hilt
      go_loopw [12, 13] (fun fv jv wr => ∃ (j f : Nat), jv = .int .i64 j ∧ fv = .int .i64 f ∧ j ≤ nk ∧ f ≤ 1 ∧ Hid (f = 1 ↔ (k : Int) ∈ Q.take j) ∧ wr = W6) (fun _ jv _ => nk - (intOf jv).toNat)
      case atStart => exact ⟨0, 0, rfl, rfl, Nat.zero_le _, by omega, hidden (by simp), rfl⟩
      case round =>
        obtain ⟨j, f, rfl, rfl, hj, hf, hfi, rfl⟩ := hrel
        by_cases hjl : j < nk
        · have hijl : (j : Int) < (nk : Int) := by omega
          obtain ⟨y, hy⟩ : ∃ y, Q[j]? = some y := ⟨_, List.getElem?_eq_getElem (by rw [HNK.out]; exact hjl)⟩
          obtain ⟨gb, off, rfl, -, hc⟩ := HQW.out (by rw [List.length_map, HNK.out]; omega)
          have e1 : wr.cell? ⟨gb, off + j, none⟩ = some (.int .i64 y) := hc j _ (by rw [List.getElem?_map, hy]; rfl)
          by_cases hyk : y = (k : Int)
          · have hyk2 : (y == (k : Int)) = true := by rw [hyk]; simp
            have HF1 : Hid (1 = 1 ↔ (k : Int) ∈ Q.take (j + 1)) := by
              show _ ↔ _
              rw [mem_take_next hy]
              exact ⟨fun _ => .inr hyk, fun _ => rfl⟩
            clear hy hc hfi
            go_wp2_with fail
            go_roundw
            case rel => exact ⟨j + 1, 1, by go_num, rfl, by omega, by omega, HF1, trivial⟩
            case measure => simp [intOf]; omega
          · have hyk2 : (y == (k : Int)) = false := by simp [hyk]
            have HF1 : Hid (f = 1 ↔ (k : Int) ∈ Q.take (j + 1)) := by
              show _ ↔ _
              rw [mem_take_next hy, hfi.out]
              exact ⟨fun q => .inl q, fun q => q.elim id fun q => absurd q hyk⟩
            clear hy hc hfi
            go_wp2_with fail
            go_roundw
            case rel => exact ⟨j + 1, f, by go_num, rfl, by omega, hf, HF1, trivial⟩
            case measure => simp [intOf]; omega
        · have hijl : ¬ (j : Int) < (nk : Int) := by omega
          have hfb : f = if b then 1 else 0 := by
            have h1 := hfi.out
            rw [List.take_of_length_le (by rw [HNK.out]; omega)] at h1
            have h2 := HBD.out
            rcases b with _ | _
            · have h3 : ¬ (k : Int) ∈ Q := fun q => by rw [decide_eq_true q] at h2; cases h2
              have h4 : ¬ f = 1 := fun q => h3 (h1.1 q)
              simp; omega
            · have h3 : (k : Int) ∈ Q := of_decide_eq_true h2.symm
              simpa using h1.2 h3
          have HMC2 : Hid (m + f = ((marksQ ns Q).take (k + 1)).countP id) := by show _ = _; rw [hfb]; exact HMC.out
          clear hfi HMC HBD hfb
          go_wp2_with fail
          go_roundw
          case rel => exact ⟨k + 1, m + f, ta', tc', by go_num, by go_num, rfl, by omega, by omega, HMC2, HB6, HROW6⟩
          case measure => simp [intOf]; omega
    · have hilt : ¬ (k : Int) < (ns : Int) := by omega
      have hkn : k = ns := by omega
      subst hkn
      have hmN : m = N := by rw [hmc.out]; exact (HCN.out trivial).symm
      subst hmN
      have HVA : Hid (Vals w9 w9.heap.size ta ((firstN k).map (Value.int .i64))) := ints_vals hrow.out (firstN_length k).symm
      have HB9 := hidden (HB5.out.trans (hb.out.mono HB5.out.size))
      have HB59 := hidden hb.out
      have HX9 := hidden (HX5.out.below hb.out HX5.out.lt)
      have HN9 := hidden (HN5.out.below hb.out)
      have HI9 := hidden (HIA.out w9 ta tc HB9.out trivial HVA.out)
      clear hrow hmc hb HVA HIA HCN HX5 HN5 HB5
      go_upto_region 23 with fail
      go_wp2_with fail
      refine HI9.out.mono ?_
      clear HI9
      rintro e w10 ⟨L3, u1, u2, v1, v2, rfl, hL3, hown3, hb10⟩
      have hZ : Has (w10.alloc (.cells #[.slice u1 k v1, .slice u2 nm v2] 26)) w10.heap.size 26 #[.slice u1 k v1, .slice u2 nm v2] := Has.new _ _ _
      have hb10a : Below w10.heap.size w10 (w10.alloc (.cells #[.slice u1 k v1, .slice u2 nm v2] 26)) := (Below.refl _ _).alloc (Nat.le_refl _) _
      obtain ⟨W10, hW10⟩ : ∃ q, w10.alloc (.cells #[.slice u1 k v1, .slice u2 nm v2] 26) = q := ⟨_, rfl⟩
      obtain ⟨qz, hqz⟩ : ∃ q, w10.heap.size = q := ⟨_, rfl⟩
      rw [hW10] at hb10a
      rw [hW10, hqz] at hZ
      have hb910 := hb10.trans (hb10a.mono hb10.size)
      have HB10 := hidden (HB9.out.trans (hb910.mono HB9.out.size))
      have HB510 := hidden (HB59.out.trans (hb910.mono HB59.out.size))
      have HX10 := hidden (HX9.out.below hb910 HX9.out.lt)
      have HN10 := hidden (HN9.out.below hb910)
      have HZ10 := hidden hZ
      have HO10 := hidden (hown3.below hb10a)
      have HL3 := hidden hL3
      have HV10 := hidden (HOV.out W10 L p1 p2 d1 d2 _ trivial HL.out HN10.out)
      have HW10 := hidden hW10
      have HQZ := hidden hqz
      have y0 : W10.cell? ⟨qx, 0, none⟩ = some (.slice p1 m d1) := HX10.out.cell 0
      have y1 : W10.cell? ⟨qx, 1, none⟩ = some (.slice p2 M d2) := HX10.out.cell 1
      clear hb10 hb10a hb910 hZ hown3 hL3 hW10 hqz HB9 HB59 HX9 HN9 HOV x0 x1
      go_upto_region 24 with fail
      rw [HW10.out, HQZ.out]
      clear HW10 HQZ
      go_wp2_with fail
      refine HV10.out.mono ?_
      clear HV10 y0 y1
      rintro e w11 ⟨rfl, hb11⟩
      have HB11 := hidden (HB10.out.trans (hb11.mono HB10.out.size))
      have HX11 := HX10.out.below hb11 HX10.out.lt
      have HZ11 := HZ10.out.below hb11 HZ10.out.lt
      have HE11 := hidden (HSO.out w11 L3 u1 u2 v1 v2 _ HB11.out HL3.out (HO10.out.below hb11))
      have y0 : w11.cell? ⟨qx, 0, none⟩ = some (.slice p1 m d1) := HX11.cell 0
      have z0 : w11.cell? ⟨qz, 0, none⟩ = some (.slice u1 k v1) := HZ11.cell 0
      have z1 : w11.cell? ⟨qz, 1, none⟩ = some (.slice u2 nm v2) := HZ11.cell 1
      obtain ⟨o0, o1⟩ := HCA.out w11 ((HB510.out).trans (hb11.mono HB510.out.size))
      have HFI : Hid (∀ W, Below w11.heap.size w11 W → Below w.heap.size w W) := fun W hW => HB1.out.trans ((HB11.out.trans (hW.mono HB11.out.size)).mono HB1.out.size)
      clear hb11 HB10 HX10 HZ10 HN10 HO10 HL3 HX11 HZ11 HB11 HB510 HCA HSO
      go_wp2_with fail
      refine HE11.out.mono ?_
      clear HE11 y0 z0 z1 o0 o1
      rintro e w12 ⟨rfl, hb12⟩
      have HFIN := hidden (HFI.out w12 hb12)
      clear hb12 HFI
      go_wp2_with fail
      go_ret
      exact ⟨rfl, HFIN.out⟩

end Go.Proofs.Ytjpclpjhigongaa

/-
  impl.withoutSymbols: an object without some of its symbols, the others being numbered anew.
-/
import Derived.Test.YtjpclpjhigongaaStpI
import Derived.Test.YtjpclpjhigongaaStpS
namespace Go.Proofs.Ytjpclpjhigongaa
open Go.RowKit

theorem kept_gone (keep : List Bool) (G : Nat) (h : ∀ i b, keep[i]? = some b → G.testBit i = !b) : ∀ k, k ≤ keep.length → keptN keep (k : Int) = (k : Int) - (cntB G k : Nat) := by
  intro k
  induction k with
  | zero => intro _; rfl
  | succ k ih =>
    intro hk
    have ih := ih (by omega)
    obtain ⟨b, hb⟩ : ∃ b, keep[k]? = some b := ⟨_, List.getElem?_eq_getElem (by omega)⟩
    have hg := h k b hb
    unfold keptN cntB at ih ⊢
    rw [Int.toNat_natCast] at ih ⊢
    rw [take_next hb, List.countP_append, List.range_succ, List.countP_append]
    simp only [List.countP_cons, List.countP_nil, hg]
    cases b <;> simp <;> omega
/-- Around a fixup that is numbered anew. -/
structure JG (w : World) (va vb : Value) (q : Nat) (vs vm : Value) (L : List Sp) (ms : List Sm) (sb fb : Nat) (xs ys : Array Value) (cn : Int) (L' : List Sp) (k : Nat) (W : World) (vals : Nat → Value) : Prop where
  fix : vals 0 = .int .i64 cn
  one : k ≤ 1 → CpS w W va vb q vs vm L ms ∧ Has W sb 64 xs ∧ Has W fb 71 ys
  two : k = 2 → CpS w W va vb q vs vm L' ms ∧ Has W sb 64 xs
set_option maxRecDepth 100000 in
set_option maxHeartbeats 8000000 in
theorem withoutSymbols_any (w : World) (B : Nat) (a1 a2 : Option Addr) (c1 c2 n m : Nat) (l : List Sp) (ms : List Sm) (hn : n = l.length) (hm : m = ms.length) (h1 : Sects w B a1 l) (h2 : Syms w B a2 ms) (hB : B ≤ w.heap.size) (hlen : n ≤ 1048576) (hlem : m ≤ 12) (hl : ∀ y ∈ l, y.s.short)
    (keep : List Bool) (G : Nat) (hG : G < 65536) (hkg : ∀ i b, keep[i]? = some b → G.testBit i = !b) (hkn : keep.length = m) (hto : ∀ y ∈ l, ∀ f ∈ y.s.fixs, 0 ≤ f.to ∧ f.to < m) :
    Calls Try.prog 30 #[.agg #[.slice a1 n c1, .slice a2 m c2], .int .u16 G] w (AnsO w ((l.map Sp.s).map (fixTo (keptN keep)), keptL keep ms)) := by
  have hA : Has ((w.alloc (.cells #[.slice a1 n c1, .slice a2 m c2] 26)).alloc (.cells #[.slice none 0 0, .slice none 0 0] 26)) w.heap.size 26 #[.slice a1 n c1, .slice a2 m c2] := (Has.new _ _ _).alloc _
  have hBa : Below w.heap.size w ((w.alloc (.cells #[.slice a1 n c1, .slice a2 m c2] 26)).alloc (.cells #[.slice none 0 0, .slice none 0 0] 26)) := ((Below.refl _ _).alloc (Nat.le_refl _) _).alloc (by simp) _
  have hR : Has ((w.alloc (.cells #[.slice a1 n c1, .slice a2 m c2] 26)).alloc (.cells #[.slice none 0 0, .slice none 0 0] 26)) (w.heap.size + 1) 26 #[.slice none 0 0, .slice none 0 0] := by
    have := Has.new (w.alloc (.cells #[.slice a1 n c1, .slice a2 m c2] 26)) 26 #[.slice none 0 0, .slice none 0 0]
    simpa using this
  obtain ⟨W2, hW2⟩ : ∃ q, ((w.alloc (.cells #[.slice a1 n c1, .slice a2 m c2] 26)).alloc (.cells #[.slice none 0 0, .slice none 0 0] 26)) = q := ⟨_, rfl⟩
  rw [hW2] at hA hBa hR
  have HW2 := hidden hW2
  have HN := hidden hn
  have HM := hidden hm
  have HGL := hidden hG
  have HKG := hidden hkg
  have H2 := hidden (h2.more hB)
  have HKN := hidden hkn
  have HTO : Hid (∀ s ∈ l.map Sp.s, ∀ f ∈ s.fixs, 0 ≤ f.to ∧ f.to < m) := fun s hs f hf => by
    obtain ⟨y, hy, rfl⟩ := List.mem_map.1 hs
    exact hto y hy f hf
  have HCP := hidden (copyObject_any W2 w.heap.size a1 a2 c1 c2 n m l ms hn hm ((h1.more hB).below hBa) ((h2.more hB).below hBa) hBa.size hlen (by omega) hl)
  have HSH : Hid (∀ s ∈ l.map Sp.s, s.fixs.length ≤ 1048576) := fun s hs => by
    obtain ⟨y, hy, rfl⟩ := List.mem_map.1 hs
    exact (hl y hy).2.2
  have x0 : W2.cell? ⟨w.heap.size, 0, none⟩ = some (.slice a1 n c1) := hA.cell 0
  have x1 : W2.cell? ⟨w.heap.size, 1, none⟩ = some (.slice a2 m c2) := hA.cell 1
  have HA := hidden hA
  have HR := hidden hR
  have HBA := hidden hBa
  clear h1 h2 hl hB hW2 hn hm hA hR hBa hkn hto hG hkg
  go_enter Try.func30, Try.ntmps30
  go_upto_region 1 with fail
  rw [HW2.out]
  clear HW2
  go_wp2_with fail
  refine HCP.out.mono ?_
  clear HCP x0 x1
  rintro e w3 ⟨L, b1, b2, d1, d2, rfl, hLs, hown, hb3⟩
  dsimp only at hLs hown
  have hLn : L.length = n := by have := congrArg List.length hLs; rw [List.length_map, List.length_map] at this; rw [this]; exact HN.out.symm
  have hMm : ms.length = m := HM.out.symm
  rw [hLn, hMm] at hown
  dsimp only
  rw [hLn, hMm]
  have hC4 : CpS w (w3.alloc (.cells #[.slice b1 n d1, .slice b2 m d2] 26)) (.slice a1 n c1) (.slice a2 m c2) w3.heap.size (.slice b1 n d1) (.slice b2 m d2) L ms := by
    refine ⟨(HBA.out.trans (hb3.mono HBA.out.size)).alloc (Nat.le_trans HBA.out.size hb3.size) _, (HA.out.below hb3 HA.out.lt).alloc _, (HR.out.below hb3 HR.out.lt).alloc _, ⟨Has.new _ _ _, (hown.secs.lower HBA.out.size).alloc _, ?_⟩, Nat.lt_of_lt_of_le HR.out.lt hb3.size⟩
    rw [hMm]; exact (row_lower hown.syms HBA.out.size).alloc _
  obtain ⟨Q, hQ⟩ : ∃ q, w3.heap.size = q := ⟨_, rfl⟩
  obtain ⟨W4, hW4⟩ : ∃ q, w3.alloc (.cells #[.slice b1 n d1, .slice b2 m d2] 26) = q := ⟨_, rfl⟩
  rw [hW4, hQ] at hC4
  have HW4 := hidden hW4
  have HQ := hidden hQ
  have y1 : W4.cell? ⟨Q, 1, none⟩ = some (.slice b2 m d2) := hC4.ob.obj.cell 1
  have f1 : W4.frozen? ⟨Q, 1, none⟩ = false := hC4.ob.obj.free 1
  have hfar := hC4.far
  have hC5 : CpS w (W4.setCell ⟨Q, 1, none⟩ (.slice none 0 0)) (.slice a1 n c1) (.slice a2 m c2) Q (.slice b1 n d1) (.slice none 0 0) L (keptL (keep.take 0) (ms.take 0)) :=
    ⟨hC4.below.grown (only_put' 1 _) hC4.below.size (by intro q hq; injection hq with hq; omega), hC4.arg.away (by show w.heap.size ≠ Q; omega) _, hC4.res.away (by show w.heap.size + 1 ≠ Q; omega) _, hC4.ob.putM (ms' := []) (World.ownsRow_nil _ _ _ _), hfar⟩
  obtain ⟨W5, hW5⟩ : ∃ q, W4.setCell ⟨Q, 1, none⟩ (.slice none 0 0) = q := ⟨_, rfl⟩
  rw [hW5] at hC5
  have q1 : W5.cell? ⟨w.heap.size, 1, none⟩ = some (.slice a2 m c2) := hC5.arg.cell 1
  have HW5 := hidden hW5
  have HC5 := hidden hC5
  have HLS := hidden hLs
  have HLN := hidden hLn
  clear hown hb3 hMm hC4 hW4 hQ hC5 hW5 hLs hLn hfar HA HR HBA
  go_upto_region 2 with fail
  rw [HW4.out, HQ.out]
  clear HW4 HQ
  go_upto_region 3 with fail
  rw [HW5.out]
  clear y1 f1 HW5
  go_wp2_with fail
  clear q1
  go_loopw [18] (fun i wr => ∃ (k nm : Nat) (ma : Option Addr) (mc : Nat), i = .int .i64 k ∧ k ≤ m ∧ nm ≤ k ∧ Hid ((keptL (keep.take k) (ms.take k)).length = nm) ∧ Hid (CpS w wr (.slice a1 n c1) (.slice a2 m c2) Q (.slice b1 n d1) (.slice ma nm mc) L (keptL (keep.take k) (ms.take k)))) (fun i _ => m - (intOf i).toNat)
  case atStart => exact ⟨0, 0, none, 0, rfl, Nat.zero_le _, Nat.le_refl _, (by show _ = _; rfl), HC5⟩
  case round =>
    obtain ⟨k, nm, ma, mc, rfl, hk, hnm, hml, hcp⟩ := hrel
    clear HC5
    by_cases hlt : k < m
    · have hilt : (k : Int) < (m : Int) := by omega
      have hkl : k < ms.length := by rw [← HM.out]; exact hlt
      obtain ⟨b, off, rfl, hbB, p0, p1, p2, p3⟩ := (H2.out.below hcp.out.below).at_ hkl
      obtain ⟨y, hy⟩ : ∃ y, ms[k] = y := ⟨_, rfl⟩
      rw [hy] at p0 p1 p2 p3
      have hy2 : ms[k]? = some y := by rw [List.getElem?_eq_getElem hkl, hy]
      obtain ⟨x, hx⟩ : ∃ x, keep[k]? = some x := ⟨_, List.getElem?_eq_getElem (by rw [HKN.out]; exact hlt)⟩
      have HNX := hidden (kept_next (by rw [HKN.out]; exact HM.out) hx hy2)
      have HHA := hidden (has_any (wr.alloc (.cells #[.string y.name, .int .i64 y.bind, .int .i64 y.loc, .int .i64 y.value] 59)) G k HGL.out (by omega))
      rw [HKG.out k x hx] at HHA
      have hS : Has (wr.alloc (.cells #[.string y.name, .int .i64 y.bind, .int .i64 y.loc, .int .i64 y.value] 59)) wr.heap.size 59 #[.string y.name, .int .i64 y.bind, .int .i64 y.loc, .int .i64 y.value] := Has.new _ _ _
      have HCA : Hid (CpS w (wr.alloc (.cells #[.string y.name, .int .i64 y.bind, .int .i64 y.loc, .int .i64 y.value] 59)) (.slice a1 n c1) (.slice (some ⟨b, off, none⟩) m c2) Q (.slice b1 n d1) (.slice ma nm mc) L (keptL (keep.take k) (ms.take k))) := hcp.out.only ((Below.refl _ _).alloc (Nat.le_refl _) _)
      obtain ⟨W6, hW6⟩ : ∃ q, wr.alloc (.cells #[.string y.name, .int .i64 y.bind, .int .i64 y.loc, .int .i64 y.value] 59) = q := ⟨_, rfl⟩
      obtain ⟨sb, hsb⟩ : ∃ q, wr.heap.size = q := ⟨_, rfl⟩
      rw [hW6, hsb] at hS
      rw [hW6] at HCA HHA
      have s0 : W6.cell? ⟨sb, 0, none⟩ = some (.string y.name) := hS.cell 0
      have s1 : W6.cell? ⟨sb, 1, none⟩ = some (.int .i64 y.bind) := hS.cell 1
      have s2 : W6.cell? ⟨sb, 2, none⟩ = some (.int .i64 y.loc) := hS.cell 2
      have s3 : W6.cell? ⟨sb, 3, none⟩ = some (.int .i64 y.value) := hS.cell 3
      have HW6 := hidden hW6
      have HSB := hidden hsb
      clear hkl hbB hy hy2 hx hlt hcp hS hW6 hsb
      go_upto_region 6 with fail
      rw [HW6.out, HSB.out]
      clear p0 p1 p2 p3 HW6 HSB
      go_wp2_with fail
      refine HHA.out.mono ?_
      clear HHA
      rintro e _ ⟨rfl, rfl⟩
      cases x with
      | false =>
        have e : keptL (keep.take (k + 1)) (ms.take (k + 1)) = keptL (keep.take k) (ms.take k) := by rw [HNX.out]; simp
        have HCN' : Hid (CpS w W6 (.slice a1 n c1) (.slice (some ⟨b, off, none⟩) m c2) Q (.slice b1 n d1) (.slice ma nm mc) L (keptL (keep.take (k + 1)) (ms.take (k + 1)))) := by rw [e]; exact HCA
        have HML' : Hid ((keptL (keep.take (k + 1)) (ms.take (k + 1))).length = nm) := by rw [e]; exact hml
        clear HNX HCA hml s0 s1 s2 s3 e
        go_wp2_with fail
        go_roundw
        case rel => exact ⟨k + 1, nm, ma, mc, by go_num, by omega, by omega, HML', HCN'⟩
        case measure => simp [intOf]; omega
      | true =>
        obtain ⟨MS, hMS⟩ : ∃ q, keptL (keep.take k) (ms.take k) = q := ⟨_, rfl⟩
        rw [hMS] at HNX HCA hml
        have HMS := hml
        obtain ⟨my0, my1, my2, my3⟩ := y
        dsimp only at s0 s1 s2 s3
        have o1 : W6.cell? ⟨Q, 1, none⟩ = some (.slice ma nm mc) := HCA.out.ob.obj.cell 1
        have hca7 := HCA.out.only ((Below.refl _ _).alloc (Nat.le_refl _) (.cells #[.string my0, .int .i64 my1, .int .i64 my2, .int .i64 my3] 59))
        have HCA7 := hidden hca7
        have HROW : Hid ((W6.alloc (.cells #[.string my0, .int .i64 my1, .int .i64 my2, .int .i64 my3] 59)).ownsRow w.heap.size 59 4 (.slice ma nm mc) nm (flatM MS)) := by
          have := hca7.ob.syms
          rwa [HMS.out] at this
        have HNW : Hid (Has (W6.alloc (.cells #[.string my0, .int .i64 my1, .int .i64 my2, .int .i64 my3] 59)) W6.heap.size 59 [Value.string my0, .int .i64 my1, .int .i64 my2, .int .i64 my3].toArray) := Has.new _ _ _
        have HST : Hid (w.heap.size ≤ (W6.alloc (.cells #[.string my0, .int .i64 my1, .int .i64 my2, .int .i64 my3] 59)).heap.size) := hca7.below.size
        clear hca7 hMS hml HCA
        go_wp2_with (at_builtin; refine wpList_app_sym _ rfl _ _ rfl w.heap.size _ nm (flatM MS) rfl HROW.out W6.heap.size 1 [Value.string my0, .int .i64 my1, .int .i64 my2, .int .i64 my3] rfl rfl HNW.out (by intro u hu; simp only [List.mem_cons, List.not_mem_nil, or_false] at hu; rcases hu with rfl | rfl | rfl | rfl <;> rfl) (by omega) HST.out ?_)
        intro ma' mc' W8 hrow8 hg8
        have hK : KpT w (W6.alloc (.cells #[.string my0, .int .i64 my1, .int .i64 my2, .int .i64 my3] 59)) (.slice a1 n c1) (.slice (some ⟨b, off, none⟩) m c2) Q (.slice b1 n d1) (.slice ma nm mc) L MS (.slice none 0 0) 0 [] := ⟨HCA7.out, World.ownsRow_nil _ _ _ _⟩
        obtain ⟨-, -, ho8, hk8⟩ := hK.appM (m := ⟨my0, my1, my2, my3⟩) hg8 (by rw [HMS.out]; exact hrow8)
        have z1 : W8.cell? ⟨Q, 1, none⟩ = some (.slice ma nm mc) := ho8.cell 1
        have u1 : W8.frozen? ⟨Q, 1, none⟩ = false := ho8.free 1
        have e : keptL (keep.take (k + 1)) (ms.take (k + 1)) = MS ++ [⟨my0, my1, my2, my3⟩] := by rw [HNX.out]; rfl
        have HCN' : Hid (CpS w (W8.setCell ⟨Q, 1, none⟩ (.slice ma' (nm + 1) mc')) (.slice a1 n c1) (.slice (some ⟨b, off, none⟩) m c2) Q (.slice b1 n d1) (.slice ma' (nm + 1) mc') L (keptL (keep.take (k + 1)) (ms.take (k + 1)))) := by rw [e]; exact hk8.cp
        have HML' : Hid ((keptL (keep.take (k + 1)) (ms.take (k + 1))).length = nm + 1) := by
          show _ = _
          rw [e, List.length_append, HMS.out]; rfl
        clear hrow8 hg8 hK ho8 hk8 e HCA7 HROW HNW HST HNX HMS s0 s1 s2 s3 o1
        go_wp2_with fail
        go_roundw
        case rel => exact ⟨k + 1, nm + 1, ma', mc', by go_num, by omega, by omega, HML', HCN'⟩
        case measure => simp [intOf]; omega
    · have hilt : ¬ (k : Int) < (m : Int) := by omega
      have hkm : k = m := by omega
      subst hkm
      have HKF : Hid (CpS w wr (.slice a1 n c1) (.slice a2 k c2) Q (.slice b1 n d1) (.slice ma nm mc) L (keptL keep ms)) := by
        have := hcp.out
        rwa [List.take_of_length_le (by rw [HKN.out]; exact Nat.le_refl _), List.take_of_length_le (by rw [← HM.out]; exact Nat.le_refl _)] at this
      have HMF : Hid ((keptL keep ms).length = nm) := by
        have := hml.out
        rwa [List.take_of_length_le (by rw [HKN.out]; exact Nat.le_refl _), List.take_of_length_le (by rw [← HM.out]; exact Nat.le_refl _)] at this
      have o0 : wr.cell? ⟨Q, 0, none⟩ = some (.slice b1 n d1) := hcp.out.ob.obj.cell 0
      clear hlt hk hcp hml hnm
      go_wp2_with fail
      clear hilt o0
      go_loopw [37] (fun i wr => ∃ (p : Nat) (L' : List Sp), i = .int .i64 p ∧ p ≤ n ∧ Hid (CpS w wr (.slice a1 n c1) (.slice a2 k c2) Q (.slice b1 n d1) (.slice ma nm mc) L' (keptL keep ms)) ∧ Hid (L'.map Sp.s = renum (keptN keep) p 0 (l.map Sp.s))) (fun i _ => n - (intOf i).toNat)
      case atStart => exact ⟨0, L, rfl, Nat.zero_le _, HKF, (by show _ = _; rw [HLS.out, renum_start])⟩
      case round =>
        obtain ⟨p, L', rfl, hp, hkp, hL⟩ := hrel
        clear HKF
        have HLN' : Hid (L'.length = n) := by
          have := renum_length hL.out
          rw [List.length_map, ← HN.out] at this
          exact this
        by_cases hlt : p < n
        · have hilt : (p : Int) < (n : Int) := by omega
          obtain ⟨s, hs⟩ : ∃ s, (l.map Sp.s)[p]? = some s := ⟨_, List.getElem?_eq_getElem (by rw [List.length_map, ← HN.out]; exact hlt)⟩
          have hrow := hkp.out.ob.secs.row
          rw [HLN'.out] at hrow
          rcases hrow.2 with ⟨_, h0⟩ | ⟨g0, cap0, cur0, hv0, _⟩
          · omega
          have hb1 : b1 = some ⟨g0, 0, none⟩ := by injection hv0
          clear hv0
          subst hb1
          obtain ⟨y, hy, hyl⟩ := renum_at hL.out hs
          obtain ⟨nf, hnf⟩ : ∃ q, s.fixs.length = q := ⟨_, rfl⟩
          have hsm := HSH.out s (List.mem_of_getElem? hs)
          rw [hnf] at hsm hyl
          have HSF : Hid (∀ f ∈ s.fixs, 0 ≤ f.to ∧ f.to < k) := HTO.out s (List.mem_of_getElem? hs)
          have HS := hidden hs
          have HNF := hidden hnf
          obtain ⟨t0, t1, t2, t3, t4, t5⟩ := flatS_at _ _ _ hy
          have p0 : wr.cell? ⟨g0, p * 6, none⟩ = some (.string y.s.name) := by rw [hrow.cellAt (p * 6) (by omega)]; exact t0
          have p1 : wr.cell? ⟨g0, p * 6 + 1, none⟩ = some (.int .i64 y.s.kind) := by rw [hrow.cellAt (p * 6 + 1) (by omega)]; exact t1
          have p2 : wr.cell? ⟨g0, p * 6 + 2, none⟩ = some (.int .i64 y.s.align) := by rw [hrow.cellAt (p * 6 + 2) (by omega)]; exact t2
          have p3 : wr.cell? ⟨g0, p * 6 + 3, none⟩ = some (.slice y.a1 y.s.bytes.length y.c1) := by rw [hrow.cellAt (p * 6 + 3) (by omega)]; exact t3
          have p4 : wr.cell? ⟨g0, p * 6 + 4, none⟩ = some (.int .i64 y.s.size) := by rw [hrow.cellAt (p * 6 + 4) (by omega)]; exact t4
          have p5 : wr.cell? ⟨g0, p * 6 + 5, none⟩ = some (.slice y.a2 y.s.fixs.length y.c2) := by rw [hrow.cellAt (p * 6 + 5) (by omega)]; exact t5
          rw [hyl] at p5
          obtain ⟨nb, hnb⟩ : ∃ q, y.s.bytes.length = q := ⟨_, rfl⟩
          rw [hnb] at p3
          obtain ⟨⟨nm5, kd, al, bs, sz, fs⟩, ya1, yc1, ya2, yc2⟩ := y
          dsimp only at p0 p1 p2 p3 p4 p5 hyl
          have HY := hidden hy
          have hS : Has (wr.alloc (.cells #[.string nm5, .int .i64 kd, .int .i64 al, .slice ya1 nb yc1, .int .i64 sz, .slice ya2 nf yc2] 64)) wr.heap.size 64 #[.string nm5, .int .i64 kd, .int .i64 al, .slice ya1 nb yc1, .int .i64 sz, .slice ya2 nf yc2] := Has.new _ _ _
          have hK5 : CpS w (wr.alloc (.cells #[.string nm5, .int .i64 kd, .int .i64 al, .slice ya1 nb yc1, .int .i64 sz, .slice ya2 nf yc2] 64)) (.slice a1 n c1) (.slice a2 k c2) Q (.slice (some ⟨g0, 0, none⟩) n d1) (.slice ma nm mc) L' (keptL keep ms) := hkp.out.only ((Below.refl _ _).alloc (Nat.le_refl _) _)
          obtain ⟨W5, hW5⟩ : ∃ q, wr.alloc (.cells #[.string nm5, .int .i64 kd, .int .i64 al, .slice ya1 nb yc1, .int .i64 sz, .slice ya2 nf yc2] 64) = q := ⟨_, rfl⟩
          obtain ⟨sb, hsb⟩ : ∃ q, wr.heap.size = q := ⟨_, rfl⟩
          rw [hW5, hsb] at hS
          rw [hW5] at hK5
          have s5 : W5.cell? ⟨sb, 5, none⟩ = some (.slice ya2 nf yc2) := hS.cell 5
          have HW5 := hidden hW5
          have HSB := hidden hsb
          have HK5 := hidden hK5
          have HS5 := hidden hS
          have HYA : Hid (L'[p]? = some ⟨⟨nm5, kd, al, bs, sz, fs⟩, ya1, yc1, ya2, yc2⟩) := hy
          clear hrow hs hnf hlt HLN' t0 t1 t2 t3 t4 t5 hnb hy hS hK5 hW5 hsb hkp hyl HY
          go_upto_region 12 with fail
          rw [HW5.out, HSB.out]
          clear p0 p1 p2 p3 p4 p5 HW5 HSB
          go_wp2_with fail
          clear s5
          go_loopw [44] (fun i wr => ∃ (j : Nat) (L' : List Sp) (yy : Sp), i = .int .i64 j ∧ j ≤ nf ∧ Hid (CpS w wr (.slice a1 n c1) (.slice a2 k c2) Q (.slice (some ⟨g0, 0, none⟩) n d1) (.slice ma nm mc) L' (keptL keep ms)) ∧ Hid (L'.map Sp.s = renum (keptN keep) p j (l.map Sp.s)) ∧ Hid (Has wr sb 64 #[.string nm5, .int .i64 kd, .int .i64 al, .slice ya1 nb yc1, .int .i64 sz, .slice ya2 nf yc2]) ∧ Hid (L'[p]? = some yy ∧ yy.a2 = ya2)) (fun i _ => nf - (intOf i).toNat)
          case atStart => exact ⟨0, L', _, rfl, Nat.zero_le _, HK5, hL, HS5, HYA.out, rfl⟩
          case round =>
            obtain ⟨j, L2, yy, rfl, hj, hk2, hL2, hS2, hyy⟩ := hrel
            clear HK5 hL HS5 HYA
            by_cases hlt : j < nf
            · have hiltj : (j : Int) < (nf : Int) := by omega
              obtain ⟨f, hf⟩ : ∃ f, s.fixs[j]? = some f := ⟨_, List.getElem?_eq_getElem (by rw [HNF.out]; exact hlt)⟩
              obtain ⟨y, hy, hyf, hyl, hnext⟩ := renum_next hL2.out HS.out hf
              have hyya : y.a2 = ya2 := by
                have e := hyy.out.1
                rw [hy] at e
                injection e with e
                rw [e]; exact hyy.out.2
              obtain ⟨g, hga, hlog, hcell, hfro, ⟨csg, hgf⟩, hset⟩ := hk2.out.setTo hy hyf
              have hsr := hk2.out.ob.secs.own2 y (List.mem_of_getElem? hy)
              obtain ⟨hf0, hf1, hf2, hf3⟩ := flatF_at _ _ _ hyf
              rw [hga] at hsr
              have hjl : j < y.s.fixs.length := by rw [hyl, HNF.out]; exact hlt
              have p0 : wr.cell? ⟨g, j * 4, none⟩ = some (.int .i64 f.pl) := by rw [hsr.cellAt (j * 4) (by omega)]; exact hf0
              have p1 : wr.cell? ⟨g, j * 4 + 1, none⟩ = some (.int .i64 f.kind) := by rw [hsr.cellAt (j * 4 + 1) (by omega)]; exact hf1
              have p3 : wr.cell? ⟨g, j * 4 + 3, none⟩ = some (.int .i64 f.add) := by rw [hsr.cellAt (j * 4 + 3) (by omega)]; exact hf3
              obtain ⟨ht0, ht1⟩ := HSF.out f (List.mem_of_getElem? hf)
              obtain ⟨tn, htn⟩ := Int.eq_ofNat_of_zero_le ht0
              have htk : tn < k := by omega
              have hkg2 := kept_gone keep G HKG.out tn (by rw [HKN.out]; omega)
              have hcl := cntB_le G tn
              obtain ⟨cn, hcn⟩ : ∃ q : Int, (cntB G tn : Nat) = q := ⟨_, rfl⟩
              have hr1 : IntKind.i64.wrap ((tn : Int) - cn) = (tn : Int) - cn := IntWalk.i64_in _ (by omega)
              rw [hcn] at hkg2
              rw [htn, hkg2] at hnext
              rw [htn] at hcell
              have HBE := hidden (fun W => before_any W G tn HGL.out (by omega))
              rw [hcn] at HBE
              obtain ⟨f0, f1, f2, f3⟩ := f
              dsimp only at p0 p1 p3 htn
              rw [hyya] at hga
              have hF : Has (wr.alloc (.cells #[.int .i64 f0, .int .i64 f1, .int .i64 (tn : Int), .int .i64 f3] 71)) wr.heap.size 71 #[.int .i64 f0, .int .i64 f1, .int .i64 (tn : Int), .int .i64 f3] := Has.new _ _ _
              have hba := (Below.refl wr.heap.size wr).alloc (Nat.le_refl _) (.cells #[.int .i64 f0, .int .i64 f1, .int .i64 (tn : Int), .int .i64 f3] 71)
              have hK6 := hk2.out.only hba
              have hS6 := hS2.out.below hba hS2.out.lt
              obtain ⟨W6, hW6⟩ : ∃ q, wr.alloc (.cells #[.int .i64 f0, .int .i64 f1, .int .i64 (tn : Int), .int .i64 f3] 71) = q := ⟨_, rfl⟩
              obtain ⟨fb, hfb⟩ : ∃ q, wr.heap.size = q := ⟨_, rfl⟩
              have hgl : g < wr.heap.size := hgf.lt
              rw [hW6, hfb] at hF
              rw [hW6] at hK6 hS6
              rw [hfb] at hgl
              have HFAR : Hid (g ≠ fb ∧ g ≠ sb) := ⟨by omega, hgf.differ hS2.out (by decide)⟩
              obtain ⟨y2, hy2, hyf2, hyl2, hnext2⟩ := renum_next hL2.out HS.out hf
              have hyeq : y2 = y := by rw [hy] at hy2; injection hy2 with e; exact e.symm
              subst hyeq
              have hJ0 : Hid (JG w (.slice a1 n c1) (.slice a2 k c2) Q (.slice (some ⟨g0, 0, none⟩) n d1) (.slice ma nm mc) L2 (keptL keep ms) sb fb #[.string nm5, .int .i64 kd, .int .i64 al, .slice ya1 nb yc1, .int .i64 sz, .slice ya2 nf yc2] #[.int .i64 f0, .int .i64 f1, .int .i64 (tn : Int), .int .i64 f3] cn (L2.set p (y2.to j ⟨f0, f1, f2, f3⟩ ((tn : Int) - cn))) 0 W6.drew fun _ => .int .i64 cn) :=
                ⟨rfl, fun _ => ⟨hK6.only ⟨rfl, rfl, rfl, Nat.le_refl _, fun _ _ => rfl⟩, hS6.drew, hF.drew⟩, fun h => by cases h⟩
              have HSET : Hid (∀ W, CpS w W (.slice a1 n c1) (.slice a2 k c2) Q (.slice (some ⟨g0, 0, none⟩) n d1) (.slice ma nm mc) L2 (keptL keep ms) → W.cell? ⟨g, j * 4 + 2, none⟩ = some (.int .i64 (tn : Int)) ∧ W.frozen? ⟨g, j * 4 + 2, none⟩ = false ∧ ∀ z, CpS w (W.setCell ⟨g, j * 4 + 2, none⟩ (.int .i64 z)) (.slice a1 n c1) (.slice a2 k c2) Q (.slice (some ⟨g0, 0, none⟩) n d1) (.slice ma nm mc) (L2.set p (y2.to j ⟨f0, f1, f2, f3⟩ z)) (keptL keep ms)) := fun W hW => by
                obtain ⟨g', hga', -, hcell', hfro', -, hset'⟩ := hW.setTo hy hyf
                rw [hyya, hga] at hga'
                injection hga' with e
                injection e with e
                subst e
                dsimp only at hcell'
                rw [htn] at hcell'
                exact ⟨hcell', hfro', hset'⟩
              have HL3 : Hid ((L2.set p (y2.to j ⟨f0, f1, f2, f3⟩ ((tn : Int) - cn))).map Sp.s = renum (keptN keep) p (j + 1) (l.map Sp.s)) := hnext
              have HYY : Hid ((L2.set p (y2.to j ⟨f0, f1, f2, f3⟩ ((tn : Int) - cn)))[p]? = some (y2.to j ⟨f0, f1, f2, f3⟩ ((tn : Int) - cn)) ∧ (y2.to j ⟨f0, f1, f2, f3⟩ ((tn : Int) - cn)).a2 = ya2) := by
                refine ⟨?_, hyya⟩
                rw [List.getElem?_set_self (List.getElem?_eq_some_iff.1 hy).1]
              have HW6 := hidden hW6
              have HFB := hidden hfb
              have HGA := hidden hga
              subst hga
              clear hlt hf hy hyf hyl hnext hyya hlog hfro hgf hset hsr hf0 hf1 hf2 hf3 hjl ht0 ht1 htn htk hkg2 hcl hcn hF hba hK6 hS6 hW6 hfb hgl hy2 hyf2 hyl2 hnext2 hk2 hL2 hS2 hyy HGA
              go_upto_region 15 with fail
              rw [HW6.out, HFB.out]
              clear p0 p1 p3 hcell HW6 HFB
              refine wp_region_chain (m := 2) (js := [.quiet (.pointer (some ⟨sb, 5, none⟩)) 2, .quiet (.slice (some ⟨g, 0, none⟩) nf yc2) 1, .quiet (.int .i64 j) 2, .quiet (.pointer (some ⟨fb, 2, none⟩)) 2, .quiet (.int .i64 (tn : Int)) 1, .quiet (.int .u16 G) 2, .quiet (.pointer (some ⟨fb, 2, none⟩)) 2, .quiet (.int .i64 (tn : Int)) 1, .chain 0, .quiet (.int .i64 ((tn : Int) - cn)) 2, .quiet (.pointer (some ⟨g, j * 4, none⟩)) 2, .quiet (.pointer (some ⟨g, j * 4 + 2, none⟩)) 2, .chain 1]) (by kernel_rfl) (JG w (.slice a1 n c1) (.slice a2 k c2) Q (.slice (some ⟨g0, 0, none⟩) n d1) (.slice ma nm mc) L2 (keptL keep ms) sb fb #[.string nm5, .int .i64 kd, .int .i64 al, .slice ya1 nb yc1, .int .i64 sz, .slice (some ⟨g, 0, none⟩) nf yc2] #[.int .i64 f0, .int .i64 f1, .int .i64 (tn : Int), .int .i64 f3] cn (L2.set p (y2.to j ⟨f0, f1, f2, f3⟩ ((tn : Int) - cn)))) (by kernel_rfl) (by kernel_rfl) ⟨_, hJ0.out⟩ (fun vals => ?_) ?_
              · show SeqW _ _ _ _ _ _ _
                refine ⟨fun kk hkk W hW => ?_, ?_⟩
                · unfold Oper.wp
                  simp [go_sem]
                  try exact ⟨_, rfl, rfl⟩
                simp only [Act.put, List.setIfInBounds_toArray, List.set_cons_succ, List.set_cons_zero]
                refine ⟨fun kk hkk W hW => ?_, ?_⟩
                · have q : W.cell? ⟨sb, 5, none⟩ = some (.slice (some ⟨g, 0, none⟩) nf yc2) := (hW.one hkk).2.1.cell 5
                  unfold Oper.wp
                  simp [go_sem, q]
                  try exact ⟨_, rfl, rfl⟩
                simp only [Act.put, List.setIfInBounds_toArray, List.set_cons_succ, List.set_cons_zero]
                refine ⟨fun kk hkk W hW => ?_, ?_⟩
                · unfold Oper.wp
                  simp [go_sem]
                  try exact ⟨_, rfl, rfl⟩
                simp only [Act.put, List.setIfInBounds_toArray, List.set_cons_succ, List.set_cons_zero]
                refine ⟨fun kk hkk W hW => ?_, ?_⟩
                · unfold Oper.wp
                  simp [go_sem]
                  try exact ⟨_, rfl, rfl⟩
                simp only [Act.put, List.setIfInBounds_toArray, List.set_cons_succ, List.set_cons_zero]
                refine ⟨fun kk hkk W hW => ?_, ?_⟩
                · have q : W.cell? ⟨fb, 2, none⟩ = some (.int .i64 (tn : Int)) := (hW.one hkk).2.2.cell 2
                  unfold Oper.wp
                  simp [go_sem, q]
                  try exact ⟨_, rfl, rfl⟩
                simp only [Act.put, List.setIfInBounds_toArray, List.set_cons_succ, List.set_cons_zero]
                refine ⟨fun kk hkk W hW => ?_, ?_⟩
                · unfold Oper.wp
                  simp [go_sem]
                  try exact ⟨_, rfl, rfl⟩
                simp only [Act.put, List.setIfInBounds_toArray, List.set_cons_succ, List.set_cons_zero]
                refine ⟨fun kk hkk W hW => ?_, ?_⟩
                · unfold Oper.wp
                  simp [go_sem]
                  try exact ⟨_, rfl, rfl⟩
                simp only [Act.put, List.setIfInBounds_toArray, List.set_cons_succ, List.set_cons_zero]
                refine ⟨fun kk hkk W hW => ?_, ?_⟩
                · have q : W.cell? ⟨fb, 2, none⟩ = some (.int .i64 (tn : Int)) := (hW.one hkk).2.2.cell 2
                  unfold Oper.wp
                  simp [go_sem, q]
                  try exact ⟨_, rfl, rfl⟩
                simp only [Act.put, List.setIfInBounds_toArray, List.set_cons_succ, List.set_cons_zero]
                refine ⟨fun W hW => ?_, ?_⟩
                · unfold Oper.wp
                  simp [go_sem]
                  refine (HBE.out W).mono ?_
                  rintro e w' ⟨rfl, z, rfl⟩
                  have hN : JG w (.slice a1 n c1) (.slice a2 k c2) Q (.slice (some ⟨g0, 0, none⟩) n d1) (.slice ma nm mc) L2 (keptL keep ms) sb fb #[.string nm5, .int .i64 kd, .int .i64 al, .slice ya1 nb yc1, .int .i64 sz, .slice (some ⟨g, 0, none⟩) nf yc2] #[.int .i64 f0, .int .i64 f1, .int .i64 (tn : Int), .int .i64 f3] cn (L2.set p (y2.to j ⟨f0, f1, f2, f3⟩ ((tn : Int) - cn))) 1 (W.drewN z) (upd vals 0 (.int .i64 cn)) :=
                    ⟨rfl, fun _ => by
                      obtain ⟨k1, k2, k3⟩ := hW.one (by decide)
                      exact ⟨k1.only (below_drewN (Below.refl _ _) z), k2.drewN z, k3.drewN z⟩, fun h => by cases h⟩
                  first | exact hN | exact ⟨_, rfl, hN⟩
                simp only [Act.put, List.setIfInBounds_toArray, List.set_cons_succ, List.set_cons_zero]
                refine ⟨fun kk hkk W hW => ?_, ?_⟩
                · have q := hW.fix
                  unfold Oper.wp
                  simp [go_sem, q, hr1]
                  try exact ⟨_, rfl, rfl⟩
                simp only [Act.put, List.setIfInBounds_toArray, List.set_cons_succ, List.set_cons_zero]
                refine ⟨fun kk hkk W hW => ?_, ?_⟩
                · have q := hiltj
                  unfold Oper.wp
                  simp [go_sem, q]
                  try exact ⟨_, rfl, rfl⟩
                simp only [Act.put, List.setIfInBounds_toArray, List.set_cons_succ, List.set_cons_zero]
                refine ⟨fun kk hkk W hW => ?_, ?_⟩
                · unfold Oper.wp
                  simp [go_sem]
                  try exact ⟨_, rfl, rfl⟩
                simp only [Act.put, List.setIfInBounds_toArray, List.set_cons_succ, List.set_cons_zero]
                refine ⟨fun W hW => ?_, trivial⟩
                obtain ⟨k1, k2, k3⟩ := hW.one (by decide)
                obtain ⟨ck, fk, hst⟩ := HSET.out W k1
                have hN : ∀ u, JG w (.slice a1 n c1) (.slice a2 k c2) Q (.slice (some ⟨g0, 0, none⟩) n d1) (.slice ma nm mc) L2 (keptL keep ms) sb fb #[.string nm5, .int .i64 kd, .int .i64 al, .slice ya1 nb yc1, .int .i64 sz, .slice (some ⟨g, 0, none⟩) nf yc2] #[.int .i64 f0, .int .i64 f1, .int .i64 (tn : Int), .int .i64 f3] cn (L2.set p (y2.to j ⟨f0, f1, f2, f3⟩ ((tn : Int) - cn))) 2 (W.setCell ⟨g, j * 4 + 2, none⟩ (.int .i64 ((tn : Int) - cn))) (upd vals 1 u) := fun u => ⟨hW.fix, fun h => absurd h (by decide), fun _ => ⟨hst _, k2.away (by show sb ≠ g; exact fun e => HFAR.out.2 e.symm) _⟩⟩
                clear k1 k2 k3 hst
                unfold Oper.wp
                simp [go_sem, ck, fk]
                first | exact hN _ | exact ⟨undef, hN _⟩ | exact ⟨_, rfl, hN _⟩
              · intro W vals hJ
                obtain ⟨k7, s7⟩ := hJ.two rfl
                have HK7 := hidden k7
                have HS7 := hidden s7
                have hv := hJ.fix
                simp only [putAll, List.map_cons, List.map_nil, Job.val, Act.put, List.setIfInBounds_toArray, List.set_cons_succ, List.set_cons_zero]
                clear k7 s7 hJ0 HSET HBE HFAR hr1
                go_wp2_with fail
                go_roundw
                case rel => exact ⟨j + 1, _, _, by go_num, by omega, HK7, HL3, HS7, HYY⟩
                case measure => simp [intOf]; omega
            · have hiltj : ¬ (j : Int) < (nf : Int) := by omega
              have HL3 : Hid (L2.map Sp.s = renum (keptN keep) (p + 1) 0 (l.map Sp.s)) := by
                show _ = _
                rw [hL2.out]
                exact renum_step _ _ _ _ fun s' hs' => by
                  rw [HS.out] at hs'
                  injection hs' with e
                  rw [← e, HNF.out]; omega
              clear hlt hj hL2 hS2 hyy
              go_wp2_with fail
              go_roundw
              case rel => exact ⟨p + 1, L2, by go_num, by omega, hk2, HL3⟩
              case measure => simp [intOf]; omega
        · have hilt : ¬ (p : Int) < (n : Int) := by omega
          have HLL : Hid (L'.map Sp.s = (l.map Sp.s).map (fixTo (keptN keep))) := by
            show _ = _
            rw [hL.out]
            exact renum_all _ _ _ (by rw [List.length_map, ← HN.out]; omega)
          have HAN := hidden (hkp.out.answer HLN'.out.symm HMF.out.symm)
          have o0 : wr.cell? ⟨Q, 0, none⟩ = some (.slice b1 n d1) := hkp.out.ob.obj.cell 0
          have o1 : wr.cell? ⟨Q, 1, none⟩ = some (.slice ma nm mc) := hkp.out.ob.obj.cell 1
          have r0 : wr.cell? ⟨w.heap.size + 1, 0, none⟩ = some (.slice none 0 0) := hkp.out.res.cell 0
          have r1 : wr.cell? ⟨w.heap.size + 1, 1, none⟩ = some (.slice none 0 0) := hkp.out.res.cell 1
          have u0 : wr.frozen? ⟨w.heap.size + 1, 0, none⟩ = false := hkp.out.res.free 0
          have u1 : wr.frozen? ⟨w.heap.size + 1, 1, none⟩ = false := hkp.out.res.free 1
          clear hlt hkp hL HLN' hp
          go_wp2_with fail
          refine bodyPost_ret (results_cell_row rfl _ _ (w.heap.size + 1) 26 #[.slice b1 n d1, .slice ma nm mc] (0, 0) _ rfl HAN.out.1 Try.underlying26 rfl (by kernel_rfl)) rfl ?_
          have := HAN.out.2
          rw [HLL.out, List.map_map] at this
          exact this

end Go.Proofs.Ytjpclpjhigongaa

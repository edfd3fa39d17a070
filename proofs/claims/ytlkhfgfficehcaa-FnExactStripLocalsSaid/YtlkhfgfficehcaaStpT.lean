/-
  spec.StripLocals and spec.StripWanted.
-/
import Derived.Test.YtlkhfgfficehcaaStpS
import Derived.Test.YtlkhfgfficehcaaOwnS
namespace Go.Proofs.Ytlkhfgfficehcaa
open Go.RowKit

theorem Try.info_bool : (Try.prog.info? 4).map (fun i => (i.zero, i.size, i.bytes)) = some (some (.bool false), 1, 1) := by kernel_rfl
/-- append(row, truth). -/
theorem wpList_app_bool {ops : Array Oper} {rest : List Oper} {o : Oper} {a : Act} (w : World) {Q : Exit → Act → World → Prop} (hgd : o.guard = none) (s x : Operand) (ho : o.op = .call { callee := .builtin .append, args := #[s, x], argTypes := #[70, 70] })
    (base : Nat) (v : Value) (n : Nat) (xs : List Value) (hs : a.eval s = v) (hown : w.ownsRow base 4 1 v n xs) (g c : Nat) (z : Bool) (hx : a.eval x = .slice (some ⟨g, 0, none⟩) 1 c) (hh : Has w g 4 #[.bool z]) (h63 : n ≤ 10000000) (hbase : base ≤ w.heap.size)
    (h : ∀ a' c' w', w'.ownsRow base 4 1 (.slice a' (n + 1) c') (n + 1) (xs ++ [.bool z]) → w.grownBy w' v.ownBlock → wpList Try.prog ops Q rest (a.put o.dst (.slice a' (n + 1) c')) w') : wpList Try.prog ops Q (o :: rest) a w :=
  wpList_plain hgd fun _ hK => wp_append_row s x 70 4 ho _ 1 1 Try.info_bool Try.underlying70 rfl (by decide) (by decide) base v n xs hs hown (some ⟨g, 0, none⟩) 1 c [.bool z] hx rfl (fun _ => ⟨g, 0, rfl, fun j u hj => by rw [Nat.zero_add, hh.cell]; simpa using hj⟩) (fun u hu => by rw [List.mem_singleton.1 hu]; rfl) (by omega) hbase fun v' w' h2 h3 => by
    obtain ⟨a', c', rfl⟩ := own_shape h2
    exact hK _ _ (h a' c' w' h2 h3)
set_option maxRecDepth 100000 in
set_option maxHeartbeats 4000000 in
theorem stripLocals'_any (w : World) (B : Nat) (a1 a2 : Option Addr) (c1 c2 n m : Nat) (l : List Sp) (ms : List Sm) (hn : n = l.length) (hm : m = ms.length) (h1 : Sects w B a1 l) (h2 : Syms w B a2 ms) (hB : B ≤ w.heap.size) (hlen : n ≤ 1048576) (hlem : m ≤ 1048576) (hl : ∀ y ∈ l, y.s.short) (hs : ∀ x ∈ ms, x.name.size ≤ maxLen) :
    Calls Try.prog 16 #[.agg #[.slice a1 n c1, .slice a2 m c2]] w (AnsO w (stripA isLocal (l.map Sp.s) ms)) := by
  have hA : Has ((w.alloc (.cells #[.slice a1 n c1, .slice a2 m c2] 26)).alloc (.cells #[.slice none 0 0, .slice none 0 0] 26)) w.heap.size 26 #[.slice a1 n c1, .slice a2 m c2] := (Has.new _ _ _).alloc _
  have hBa : Below w.heap.size w ((w.alloc (.cells #[.slice a1 n c1, .slice a2 m c2] 26)).alloc (.cells #[.slice none 0 0, .slice none 0 0] 26)) := ((Below.refl _ _).alloc (Nat.le_refl _) _).alloc (by simp) _
  have hR : Has ((w.alloc (.cells #[.slice a1 n c1, .slice a2 m c2] 26)).alloc (.cells #[.slice none 0 0, .slice none 0 0] 26)) (w.heap.size + 1) 26 #[.slice none 0 0, .slice none 0 0] := by
    have := Has.new (w.alloc (.cells #[.slice a1 n c1, .slice a2 m c2] 26)) 26 #[.slice none 0 0, .slice none 0 0]
    simpa using this
  obtain ⟨W2, hW2⟩ : ∃ q, ((w.alloc (.cells #[.slice a1 n c1, .slice a2 m c2] 26)).alloc (.cells #[.slice none 0 0, .slice none 0 0] 26)) = q := ⟨_, rfl⟩
  rw [hW2] at hA hBa hR
  have HW2 := hidden hW2
  have HN := hidden hn
  have HM := hidden hm
  have HS := hidden hs
  have HOW := hidden (l1OwnObject_any W2 w.heap.size a1 a2 c1 c2 n m l ms hn hm ((h1.more hB).below hBa) ((h2.more hB).below hBa) hBa.size hlen hlem hl)
  have HSH : Hid (∀ s ∈ l.map Sp.s, s.short) := fun s hs => by
    obtain ⟨y, hy, rfl⟩ := List.mem_map.1 hs
    exact hl y hy
  have x0 : W2.cell? ⟨w.heap.size, 0, none⟩ = some (.slice a1 n c1) := hA.cell 0
  have x1 : W2.cell? ⟨w.heap.size, 1, none⟩ = some (.slice a2 m c2) := hA.cell 1
  have HA := hidden hA
  have HR := hidden hR
  have HBA := hidden hBa
  clear h1 h2 hl hs hB hW2 hn hm hA hR hBa
  go_enter Try.func16, Try.ntmps16
  go_upto_region 1 with fail
  rw [HW2.out]
  clear HW2
  go_wp2_with fail
  refine HOW.out.mono ?_
  clear HOW x0 x1
  rintro e w3 ⟨L, b1, b2, d1, d2, rfl, hLs, hown, hb3⟩
  dsimp only at hLs hown
  have hLn : L.length = n := by have := congrArg List.length hLs; rw [List.length_map, List.length_map] at this; rw [this]; exact HN.out.symm
  have hMm : ms.length = m := HM.out.symm
  rw [hLn, hMm] at hown
  dsimp only
  rw [hLn, hMm]
  have hA3 := HA.out.below hb3 HA.out.lt
  have hR3 := HR.out.below hb3 HR.out.lt
  have z0 : w3.cell? ⟨w.heap.size, 0, none⟩ = some (.slice a1 n c1) := hA3.cell 0
  have z1 : w3.cell? ⟨w.heap.size, 1, none⟩ = some (.slice a2 m c2) := hA3.cell 1
  have f0 : w3.frozen? ⟨w.heap.size, 0, none⟩ = false := hA3.free 0
  have f1 : w3.frozen? ⟨w.heap.size, 1, none⟩ = false := hA3.free 1
  have hA4 : Has ((w3.setCell ⟨w.heap.size, 0, none⟩ (.slice b1 n d1)).setCell ⟨w.heap.size, 1, none⟩ (.slice b2 m d2)) w.heap.size 26 #[.slice b1 n d1, .slice b2 m d2] := (hA3.put 0 _).put 1 _
  have hg4 : w3.grownBy ((w3.setCell ⟨w.heap.size, 0, none⟩ (.slice b1 n d1)).setCell ⟨w.heap.size, 1, none⟩ (.slice b2 m d2)) (some w.heap.size) := only_trans (only_put' 0 _) (only_put' 1 _)
  have hR4 := hR3.grown hg4 (by intro e; injection e with e; omega)
  have hown4 := hown.under (by exact HA.out.lt) hg4
  have hb4 : Below w.heap.size w ((w3.setCell ⟨w.heap.size, 0, none⟩ (.slice b1 n d1)).setCell ⟨w.heap.size, 1, none⟩ (.slice b2 m d2)) := (HBA.out.trans (hb3.mono HBA.out.size)).grown hg4 (Nat.le_trans HBA.out.size hb3.size) (by intro q hq; injection hq with hq; omega)
  obtain ⟨W4, hW4⟩ : ∃ q, (w3.setCell ⟨w.heap.size, 0, none⟩ (.slice b1 n d1)).setCell ⟨w.heap.size, 1, none⟩ (.slice b2 m d2) = q := ⟨_, rfl⟩
  rw [hW4] at hA4 hR4 hown4 hb4
  have H1 := hidden hown4.sects
  have H2 := hidden hown4.syms'
  have HLL := hidden hLs
  have HLN := hidden hLn
  have HSL : Hid (∀ y ∈ L, y.s.short) := fun y hy => HSH.out y.s (by rw [← hLs]; exact List.mem_map_of_mem hy)
  have HOV := hidden (objectValid'_any W4 W4.heap.size b1 b2 d1 d2 n m L ms hLn.symm HM.out hown4.sects hown4.syms' (Nat.le_refl _) (by omega) (by omega) (fun y hy => by obtain ⟨g1, g2, g3⟩ := HSL.out y hy; exact ⟨by unfold maxLen; omega, by omega, by omega⟩) HS.out)
  obtain ⟨ok, hok⟩ : ∃ q, objOk (L.map Sp.s) ms = q := ⟨_, rfl⟩
  rw [hok] at HOV
  have HOK := hidden hok
  have y0 : W4.cell? ⟨w.heap.size, 0, none⟩ = some (.slice b1 n d1) := hA4.cell 0
  have y1 : W4.cell? ⟨w.heap.size, 1, none⟩ = some (.slice b2 m d2) := hA4.cell 1
  have HA4 := hidden hA4
  have HR4 := hidden hR4
  have HB4 := hidden hb4
  have HW4 := hidden hW4
  clear hown hb3 hMm hA3 hR3 hA4 hg4 hR4 hown4 hb4 hW4 hLs hLn hok HA HR HBA HS
  go_upto_region 2 with fail
  rw [HW4.out]
  clear z0 z1 f0 f1 HW4
  go_wp2_with fail
  refine HOV.out.mono ?_
  clear HOV y0 y1
  rintro e w5 ⟨rfl, hb5⟩
  have HB5 := hidden hb5
  have hr5 := HR4.out.below hb5 HR4.out.lt
  have r0 : w5.cell? ⟨w.heap.size + 1, 0, none⟩ = some (.slice none 0 0) := hr5.cell 0
  have r1 : w5.cell? ⟨w.heap.size + 1, 1, none⟩ = some (.slice none 0 0) := hr5.cell 1
  have u0 : w5.frozen? ⟨w.heap.size + 1, 0, none⟩ = false := hr5.free 0
  have u1 : w5.frozen? ⟨w.heap.size + 1, 1, none⟩ = false := hr5.free 1
  have HR5 := hidden hr5
  clear hb5 hr5
  cases ok with
  | false =>
    have HAN : Hid (stripA isLocal (l.map Sp.s) ms = ([], [])) := by
      show _ = _
      unfold stripA
      rw [← HLL.out, HOK.out]; rfl
    go_wp2_with fail
    have p0 := HR5.out.put 0 (.slice none 0 0)
    have p1 := p0.put 1 (.slice none 0 0)
    have hb6 := HB4.out.trans (HB5.out.mono HB4.out.size)
    have hb7 : Below w.heap.size w ((w5.setCell ⟨w.heap.size + 1, 0, none⟩ (.slice none 0 0)).setCell ⟨w.heap.size + 1, 1, none⟩ (.slice none 0 0)) := hb6.grown (only_trans (only_put' 0 _) (only_put' 1 _)) hb6.size (by intro q hq; injection hq with hq; omega)
    refine bodyPost_ret (results_cell_row rfl _ _ (w.heap.size + 1) 26 #[.slice none 0 0, .slice none 0 0] (0, 0) _ rfl p1 Try.underlying26 rfl (by kernel_rfl)) rfl ?_
    rw [HAN.out]
    exact ansO_none _ _ hb7
  | true =>
    have hparts := objOk_parts HOK.out
    have HPA := hidden hparts
    have hm12 : m ≤ 12 := by rw [HM.out]; exact hparts.2.1
    clear r0 r1 u0 u1 hparts
    have HOWN0 : Hid ((w5.alloc (.cells #[] 4)).ownsRow W4.heap.size 4 1 (.slice (some ⟨w5.heap.size, 0, none⟩) 0 0) 0 (((stays isLocal (l.map Sp.s) ms).take 0).map Value.bool)) := empty_row w5 W4.heap.size 4 1 HB5.out.size
    have HB5a : Hid (Below W4.heap.size W4 (w5.alloc (.cells #[] 4))) := HB5.out.alloc HB5.out.size _
    clear HB5 HR5
    go_wp2_with fail
    go_loopw [3, 4] (fun tv i wr => ∃ (k : Nat) (ka : Option Addr) (kc : Nat), i = .int .i64 k ∧ tv = .slice ka k kc ∧ k ≤ m ∧ Hid (Below W4.heap.size W4 wr) ∧ Hid (wr.ownsRow W4.heap.size 4 1 (.slice ka k kc) k (((stays isLocal (l.map Sp.s) ms).take k).map Value.bool))) (fun _ i _ => m - (intOf i).toNat)
    case atStart => exact ⟨0, _, 0, rfl, rfl, Nat.zero_le _, HB5a, HOWN0⟩
    case round =>
      obtain ⟨k, ka, kc, rfl, rfl, hk, hb, hrow⟩ := hrel
      clear HB5a HOWN0
      have hA5 := HA4.out.below hb.out HA4.out.lt
      have q0 : wr.cell? ⟨w.heap.size, 0, none⟩ = some (.slice b1 n d1) := hA5.cell 0
      have q1 : wr.cell? ⟨w.heap.size, 1, none⟩ = some (.slice b2 m d2) := hA5.cell 1
      clear hA5
      by_cases hlt : k < m
      · have hilt : (k : Int) < (m : Int) := by omega
        have hkl : k < ms.length := by rw [← HM.out]; exact hlt
        obtain ⟨b, off, rfl, hbB, p0, p1, p2, p3⟩ := (H2.out.below hb.out).at_ hkl
        obtain ⟨y, hy⟩ : ∃ y, ms[k] = y := ⟨_, rfl⟩
        rw [hy] at p0 p1 p2 p3
        have hy2 : ms[k]? = some y := by rw [List.getElem?_eq_getElem hkl, hy]
        have hst := stays_at (go := isLocal) (ss := l.map Sp.s) hy2
        have HU := hidden (l9Used_any wr W4.heap.size b1 (some ⟨b, off, none⟩) d1 d2 n m L HLN.out.symm (H1.out.below hb.out) hb.out.size hlen (fun z hz => (HSL.out z hz).2.2) (k : Int))
        rw [HLL.out] at HU
        obtain ⟨u, hu⟩ : ∃ q, usedB (l.map Sp.s) (k : Int) = q := ⟨_, rfl⟩
        rw [hu] at HU hst
        obtain ⟨z, hz⟩ : ∃ q, y.bind = q := ⟨_, rfl⟩
        rw [hz] at p1
        have HST : Hid ((stays isLocal (l.map Sp.s) ms).take (k + 1) = (stays isLocal (l.map Sp.s) ms).take k ++ [!decide (z = 0) || u]) := by
          show _ = _
          rw [take_next hst, ← hz]; rfl
        clear hkl hbB hy hy2 hst hu hz hlt
        have key : ∀ (x : Bool) (W : World), Below wr.heap.size wr W → (!decide (z = 0) || u) = x → Hid ((W.alloc (.cells #[.bool x] 4)).ownsRow W4.heap.size 4 1 (.slice ka k kc) k (((stays isLocal (l.map Sp.s) ms).take k).map Value.bool)) ∧ Hid (Has (W.alloc (.cells #[.bool x] 4)) W.heap.size 4 #[.bool x]) ∧ Hid (W4.heap.size ≤ (W.alloc (.cells #[.bool x] 4)).heap.size) ∧ Hid (Below W4.heap.size W4 (W.alloc (.cells #[.bool x] 4))) := fun x W hW _ => by
          have hbw := hb.out.trans (hW.mono hb.out.size)
          exact ⟨(World.ownsRow.kept hrow.out (grown_only hW) (Classical.em _)).alloc _, Has.new _ _ _, Nat.le_trans hbw.size (by simp), hbw.alloc hbw.size _⟩
        have KEY := hidden key
        clear key
        by_cases he : z = 0
        · have hd : (z == 0) = true := by rw [he]; simp
          have hd2 : (z != 0) = false := by rw [he]; simp
          clear hrow hb
          go_wp2_with fail
          refine HU.out.mono ?_
          clear HU
          rintro e w6 ⟨rfl, hb6⟩
          obtain ⟨K1, K2, K3, K4⟩ := KEY.out u w6 hb6 (by rw [he]; simp)
          clear hb6 KEY q0 q1 p0 p1 p2 p3
          go_wp2_with (at_builtin; refine wpList_app_bool _ rfl _ _ rfl W4.heap.size _ k _ rfl K1.out w6.heap.size 1 u rfl K2.out (by omega) K3.out ?_)
          intro ka' kc' W8 hrow8 hg8
          have HROW8 : Hid (W8.ownsRow W4.heap.size 4 1 (.slice ka' (k + 1) kc') (k + 1) (((stays isLocal (l.map Sp.s) ms).take (k + 1)).map Value.bool)) := by
            show World.ownsRow _ _ _ _ _ _ _
            rw [HST.out, he, List.map_append]; simpa using hrow8
          have HB8 : Hid (Below W4.heap.size W4 W8) := K4.out.grown hg8 K3.out (fun q hq => (K1.out.lt q hq).1)
          clear hrow8 hg8 K1 K2 K3 K4 HST
          go_wp2_with fail
          go_roundw
          case rel => exact ⟨k + 1, ka', kc', by go_num, rfl, by omega, HB8, HROW8⟩
          case measure => simp [intOf]; omega
        · have hd : (z == 0) = false := by simp [he]
          have hd2 : (z != 0) = true := by simp [he]
          obtain ⟨K1, K2, K3, K4⟩ := KEY.out true wr (Below.refl _ _) (by simp [he])
          clear HU KEY hrow hb
          go_wp2_with (at_builtin; refine wpList_app_bool _ rfl _ _ rfl W4.heap.size _ k _ rfl K1.out wr.heap.size 1 true rfl K2.out (by omega) K3.out ?_)
          intro ka' kc' W8 hrow8 hg8
          have HROW8 : Hid (W8.ownsRow W4.heap.size 4 1 (.slice ka' (k + 1) kc') (k + 1) (((stays isLocal (l.map Sp.s) ms).take (k + 1)).map Value.bool)) := by
            show World.ownsRow _ _ _ _ _ _ _
            rw [HST.out, List.map_append]; simpa [he] using hrow8
          have HB8 : Hid (Below W4.heap.size W4 W8) := K4.out.grown hg8 K3.out (fun q hq => (K1.out.lt q hq).1)
          clear hrow8 hg8 K1 K2 K3 K4 HST p0 p1 p2 p3 q0 q1
          go_wp2_with fail
          go_roundw
          case rel => exact ⟨k + 1, ka', kc', by go_num, rfl, by omega, HB8, HROW8⟩
          case measure => simp [intOf]; omega
      · have hilt : ¬ (k : Int) < (m : Int) := by omega
        have hkm : k = m := by omega
        subst hkm
        have hrowf : wr.ownsRow W4.heap.size 4 1 (.slice ka k kc) k ((stays isLocal (l.map Sp.s) ms).map Value.bool) := by
          have := hrow.out
          rwa [List.take_of_length_le (by rw [stays_length, ← HM.out]; exact Nat.le_refl _)] at this
        have hkl : (stays isLocal (l.map Sp.s) ms).length = k := by rw [stays_length]; exact HM.out.symm
        have hvals : Vals wr wr.heap.size ka ((stays isLocal (l.map Sp.s) ms).map Value.bool) := by
          obtain ⟨a', c', e', _, hv⟩ := vals_of_own (by rw [List.length_map, hkl]; exact hrowf)
          injection e' with e1
          subst e1; exact hv
        have HKP := hidden (l9Keep_any wr wr.heap.size b1 b2 d1 d2 n k L ms HLN.out.symm HM.out ((H1.out.below hb.out).more hb.out.size) ((H2.out.below hb.out).more hb.out.size) (Nat.le_refl _) hlen hlem HSL.out (stays isLocal (l.map Sp.s) ms) ka kc hvals hkl (fun y hy f hf => by
          have := (HPA.out.2.2 y.s (List.mem_map_of_mem hy)).2.2 f hf
          rw [HM.out]; exact this))
        rw [HLL.out] at HKP
        have HAN : Hid (stripA isLocal (l.map Sp.s) ms = ((l.map Sp.s).map (fixTo (keptN (stays isLocal (l.map Sp.s) ms))), keptL (stays isLocal (l.map Sp.s) ms) ms)) := by
          show _ = _
          unfold stripA
          rw [if_pos (by rw [← HLL.out]; exact HOK.out)]
        have HWR := hidden hb.out
        clear hlt hrow hrowf hkl hvals hb hk
        go_wp2_with fail
        refine HKP.out.mono ?_
        clear HKP q0 q1
        rintro e w6 ⟨L6, e1, e2, g1, g2, rfl, hL6, hown6, hb6⟩
        dsimp only at hL6 hown6
        dsimp only
        have hb6w : Below W4.heap.size W4 w6 := HWR.out.trans (hb6.mono HWR.out.size)
        have hr6 := HR4.out.below hb6w HR4.out.lt
        have r0 : w6.cell? ⟨w.heap.size + 1, 0, none⟩ = some (.slice none 0 0) := hr6.cell 0
        have r1 : w6.cell? ⟨w.heap.size + 1, 1, none⟩ = some (.slice none 0 0) := hr6.cell 1
        have u0 : w6.frozen? ⟨w.heap.size + 1, 0, none⟩ = false := hr6.free 0
        have u1 : w6.frozen? ⟨w.heap.size + 1, 1, none⟩ = false := hr6.free 1
        obtain ⟨N6, hN6⟩ : ∃ q, L6.length = q := ⟨_, rfl⟩
        obtain ⟨M6, hM6⟩ : ∃ q, (keptL (stays isLocal (l.map Sp.s) ms) ms).length = q := ⟨_, rfl⟩
        rw [hN6, hM6] at hown6
        rw [hN6, hM6]
        have hg7 : w6.grownBy ((w6.setCell ⟨w.heap.size + 1, 0, none⟩ (.slice e1 N6 g1)).setCell ⟨w.heap.size + 1, 1, none⟩ (.slice e2 M6 g2)) (some (w.heap.size + 1)) := only_trans (only_put' 0 _) (only_put' 1 _)
        have hlo : w.heap.size + 1 < wr.heap.size := Nat.lt_of_lt_of_le HR4.out.lt HWR.out.size
        have hb6v : Below w.heap.size w w6 := HB4.out.trans (hb6w.mono HB4.out.size)
        have HB7 : Hid (Below w.heap.size w ((w6.setCell ⟨w.heap.size + 1, 0, none⟩ (.slice e1 N6 g1)).setCell ⟨w.heap.size + 1, 1, none⟩ (.slice e2 M6 g2))) := hb6v.grown hg7 hb6v.size (by intro q hq; injection hq with hq; omega)
        have hown7 := hown6.under hlo hg7
        have HP : Hid (Has ((w6.setCell ⟨w.heap.size + 1, 0, none⟩ (.slice e1 N6 g1)).setCell ⟨w.heap.size + 1, 1, none⟩ (.slice e2 M6 g2)) (w.heap.size + 1) 26 #[.slice e1 N6 g1, .slice e2 M6 g2]) := (hr6.put 0 _).put 1 _
        have HOWN7 := hidden hown7
        have HL6 := hidden hL6
        have HN6 := hidden hN6
        have HM6 := hidden hM6
        have HLO : Hid (w.heap.size ≤ wr.heap.size) := by show _ ≤ _; omega
        clear hL6 hown6 hb6 hb6w hr6 hN6 hM6 hg7 hlo hb6v hown7
        go_wp2_with fail
        refine bodyPost_ret (results_cell_row rfl _ _ (w.heap.size + 1) 26 #[.slice e1 N6 g1, .slice e2 M6 g2] (0, 0) _ rfl HP.out Try.underlying26 rfl (by kernel_rfl)) rfl ?_
        rw [HAN.out]
        refine ⟨L6, e1, e2, g1, g2, ?_, HL6.out, ?_, HB7.out⟩
        · dsimp only; rw [HN6.out, HM6.out]
        · dsimp only
          rw [HN6.out, HM6.out]
          exact ⟨HB7.out.size, HOWN7.out.len, HOWN7.out.lem, HOWN7.out.secs.lower HLO.out, row_lower HOWN7.out.syms HLO.out⟩
set_option maxRecDepth 100000 in
set_option maxHeartbeats 4000000 in
theorem stripWanted'_any (w : World) (B : Nat) (a1 a2 : Option Addr) (c1 c2 n m : Nat) (l : List Sp) (ms : List Sm) (hn : n = l.length) (hm : m = ms.length) (h1 : Sects w B a1 l) (h2 : Syms w B a2 ms) (hB : B ≤ w.heap.size) (hlen : n ≤ 1048576) (hlem : m ≤ 1048576) (hl : ∀ y ∈ l, y.s.short) (hs : ∀ x ∈ ms, x.name.size ≤ maxLen) :
    Calls Try.prog 22 #[.agg #[.slice a1 n c1, .slice a2 m c2]] w (AnsO w (stripA isWanted (l.map Sp.s) ms)) := by
  have hA : Has ((w.alloc (.cells #[.slice a1 n c1, .slice a2 m c2] 26)).alloc (.cells #[.slice none 0 0, .slice none 0 0] 26)) w.heap.size 26 #[.slice a1 n c1, .slice a2 m c2] := (Has.new _ _ _).alloc _
  have hBa : Below w.heap.size w ((w.alloc (.cells #[.slice a1 n c1, .slice a2 m c2] 26)).alloc (.cells #[.slice none 0 0, .slice none 0 0] 26)) := ((Below.refl _ _).alloc (Nat.le_refl _) _).alloc (by simp) _
  have hR : Has ((w.alloc (.cells #[.slice a1 n c1, .slice a2 m c2] 26)).alloc (.cells #[.slice none 0 0, .slice none 0 0] 26)) (w.heap.size + 1) 26 #[.slice none 0 0, .slice none 0 0] := by
    have := Has.new (w.alloc (.cells #[.slice a1 n c1, .slice a2 m c2] 26)) 26 #[.slice none 0 0, .slice none 0 0]
    simpa using this
  obtain ⟨W2, hW2⟩ : ∃ q, ((w.alloc (.cells #[.slice a1 n c1, .slice a2 m c2] 26)).alloc (.cells #[.slice none 0 0, .slice none 0 0] 26)) = q := ⟨_, rfl⟩
  rw [hW2] at hA hBa hR
  have HW2 := hidden hW2
  have HN := hidden hn
  have HM := hidden hm
  have HS := hidden hs
  have HOW := hidden (l1OwnObject_any W2 w.heap.size a1 a2 c1 c2 n m l ms hn hm ((h1.more hB).below hBa) ((h2.more hB).below hBa) hBa.size hlen hlem hl)
  have HSH : Hid (∀ s ∈ l.map Sp.s, s.short) := fun s hs => by
    obtain ⟨y, hy, rfl⟩ := List.mem_map.1 hs
    exact hl y hy
  have x0 : W2.cell? ⟨w.heap.size, 0, none⟩ = some (.slice a1 n c1) := hA.cell 0
  have x1 : W2.cell? ⟨w.heap.size, 1, none⟩ = some (.slice a2 m c2) := hA.cell 1
  have HA := hidden hA
  have HR := hidden hR
  have HBA := hidden hBa
  clear h1 h2 hl hs hB hW2 hn hm hA hR hBa
  go_enter Try.func22, Try.ntmps22
  go_upto_region 1 with fail
  rw [HW2.out]
  clear HW2
  go_wp2_with fail
  refine HOW.out.mono ?_
  clear HOW x0 x1
  rintro e w3 ⟨L, b1, b2, d1, d2, rfl, hLs, hown, hb3⟩
  dsimp only at hLs hown
  have hLn : L.length = n := by have := congrArg List.length hLs; rw [List.length_map, List.length_map] at this; rw [this]; exact HN.out.symm
  have hMm : ms.length = m := HM.out.symm
  rw [hLn, hMm] at hown
  dsimp only
  rw [hLn, hMm]
  have hA3 := HA.out.below hb3 HA.out.lt
  have hR3 := HR.out.below hb3 HR.out.lt
  have z0 : w3.cell? ⟨w.heap.size, 0, none⟩ = some (.slice a1 n c1) := hA3.cell 0
  have z1 : w3.cell? ⟨w.heap.size, 1, none⟩ = some (.slice a2 m c2) := hA3.cell 1
  have f0 : w3.frozen? ⟨w.heap.size, 0, none⟩ = false := hA3.free 0
  have f1 : w3.frozen? ⟨w.heap.size, 1, none⟩ = false := hA3.free 1
  have hA4 : Has ((w3.setCell ⟨w.heap.size, 0, none⟩ (.slice b1 n d1)).setCell ⟨w.heap.size, 1, none⟩ (.slice b2 m d2)) w.heap.size 26 #[.slice b1 n d1, .slice b2 m d2] := (hA3.put 0 _).put 1 _
  have hg4 : w3.grownBy ((w3.setCell ⟨w.heap.size, 0, none⟩ (.slice b1 n d1)).setCell ⟨w.heap.size, 1, none⟩ (.slice b2 m d2)) (some w.heap.size) := only_trans (only_put' 0 _) (only_put' 1 _)
  have hR4 := hR3.grown hg4 (by intro e; injection e with e; omega)
  have hown4 := hown.under (by exact HA.out.lt) hg4
  have hb4 : Below w.heap.size w ((w3.setCell ⟨w.heap.size, 0, none⟩ (.slice b1 n d1)).setCell ⟨w.heap.size, 1, none⟩ (.slice b2 m d2)) := (HBA.out.trans (hb3.mono HBA.out.size)).grown hg4 (Nat.le_trans HBA.out.size hb3.size) (by intro q hq; injection hq with hq; omega)
  obtain ⟨W4, hW4⟩ : ∃ q, (w3.setCell ⟨w.heap.size, 0, none⟩ (.slice b1 n d1)).setCell ⟨w.heap.size, 1, none⟩ (.slice b2 m d2) = q := ⟨_, rfl⟩
  rw [hW4] at hA4 hR4 hown4 hb4
  have H1 := hidden hown4.sects
  have H2 := hidden hown4.syms'
  have HLL := hidden hLs
  have HLN := hidden hLn
  have HSL : Hid (∀ y ∈ L, y.s.short) := fun y hy => HSH.out y.s (by rw [← hLs]; exact List.mem_map_of_mem hy)
  have HOV := hidden (objectValid'_any W4 W4.heap.size b1 b2 d1 d2 n m L ms hLn.symm HM.out hown4.sects hown4.syms' (Nat.le_refl _) (by omega) (by omega) (fun y hy => by obtain ⟨g1, g2, g3⟩ := HSL.out y hy; exact ⟨by unfold maxLen; omega, by omega, by omega⟩) HS.out)
  obtain ⟨ok, hok⟩ : ∃ q, objOk (L.map Sp.s) ms = q := ⟨_, rfl⟩
  rw [hok] at HOV
  have HOK := hidden hok
  have y0 : W4.cell? ⟨w.heap.size, 0, none⟩ = some (.slice b1 n d1) := hA4.cell 0
  have y1 : W4.cell? ⟨w.heap.size, 1, none⟩ = some (.slice b2 m d2) := hA4.cell 1
  have HA4 := hidden hA4
  have HR4 := hidden hR4
  have HB4 := hidden hb4
  have HW4 := hidden hW4
  clear hown hb3 hMm hA3 hR3 hA4 hg4 hR4 hown4 hb4 hW4 hLs hLn hok HA HR HBA HS
  go_upto_region 2 with fail
  rw [HW4.out]
  clear z0 z1 f0 f1 HW4
  go_wp2_with fail
  refine HOV.out.mono ?_
  clear HOV y0 y1
  rintro e w5 ⟨rfl, hb5⟩
  have HB5 := hidden hb5
  have hr5 := HR4.out.below hb5 HR4.out.lt
  have r0 : w5.cell? ⟨w.heap.size + 1, 0, none⟩ = some (.slice none 0 0) := hr5.cell 0
  have r1 : w5.cell? ⟨w.heap.size + 1, 1, none⟩ = some (.slice none 0 0) := hr5.cell 1
  have u0 : w5.frozen? ⟨w.heap.size + 1, 0, none⟩ = false := hr5.free 0
  have u1 : w5.frozen? ⟨w.heap.size + 1, 1, none⟩ = false := hr5.free 1
  have HR5 := hidden hr5
  clear hb5 hr5
  cases ok with
  | false =>
    have HAN : Hid (stripA isWanted (l.map Sp.s) ms = ([], [])) := by
      show _ = _
      unfold stripA
      rw [← HLL.out, HOK.out]; rfl
    go_wp2_with fail
    have p0 := HR5.out.put 0 (.slice none 0 0)
    have p1 := p0.put 1 (.slice none 0 0)
    have hb6 := HB4.out.trans (HB5.out.mono HB4.out.size)
    have hb7 : Below w.heap.size w ((w5.setCell ⟨w.heap.size + 1, 0, none⟩ (.slice none 0 0)).setCell ⟨w.heap.size + 1, 1, none⟩ (.slice none 0 0)) := hb6.grown (only_trans (only_put' 0 _) (only_put' 1 _)) hb6.size (by intro q hq; injection hq with hq; omega)
    refine bodyPost_ret (results_cell_row rfl _ _ (w.heap.size + 1) 26 #[.slice none 0 0, .slice none 0 0] (0, 0) _ rfl p1 Try.underlying26 rfl (by kernel_rfl)) rfl ?_
    rw [HAN.out]
    exact ansO_none _ _ hb7
  | true =>
    have hparts := objOk_parts HOK.out
    have HPA := hidden hparts
    have hm12 : m ≤ 12 := by rw [HM.out]; exact hparts.2.1
    clear r0 r1 u0 u1 hparts
    have HOWN0 : Hid ((w5.alloc (.cells #[] 4)).ownsRow W4.heap.size 4 1 (.slice (some ⟨w5.heap.size, 0, none⟩) 0 0) 0 (((stays isWanted (l.map Sp.s) ms).take 0).map Value.bool)) := empty_row w5 W4.heap.size 4 1 HB5.out.size
    have HB5a : Hid (Below W4.heap.size W4 (w5.alloc (.cells #[] 4))) := HB5.out.alloc HB5.out.size _
    clear HB5 HR5
    go_wp2_with fail
    go_loopw [3, 4] (fun tv i wr => ∃ (k : Nat) (ka : Option Addr) (kc : Nat), i = .int .i64 k ∧ tv = .slice ka k kc ∧ k ≤ m ∧ Hid (Below W4.heap.size W4 wr) ∧ Hid (wr.ownsRow W4.heap.size 4 1 (.slice ka k kc) k (((stays isWanted (l.map Sp.s) ms).take k).map Value.bool))) (fun _ i _ => m - (intOf i).toNat)
    case atStart => exact ⟨0, _, 0, rfl, rfl, Nat.zero_le _, HB5a, HOWN0⟩
    case round =>
      obtain ⟨k, ka, kc, rfl, rfl, hk, hb, hrow⟩ := hrel
      clear HB5a HOWN0
      have hA5 := HA4.out.below hb.out HA4.out.lt
      have q0 : wr.cell? ⟨w.heap.size, 0, none⟩ = some (.slice b1 n d1) := hA5.cell 0
      have q1 : wr.cell? ⟨w.heap.size, 1, none⟩ = some (.slice b2 m d2) := hA5.cell 1
      clear hA5
      by_cases hlt : k < m
      · have hilt : (k : Int) < (m : Int) := by omega
        have hkl : k < ms.length := by rw [← HM.out]; exact hlt
        obtain ⟨b, off, rfl, hbB, p0, p1, p2, p3⟩ := (H2.out.below hb.out).at_ hkl
        obtain ⟨y, hy⟩ : ∃ y, ms[k] = y := ⟨_, rfl⟩
        rw [hy] at p0 p1 p2 p3
        have hy2 : ms[k]? = some y := by rw [List.getElem?_eq_getElem hkl, hy]
        have hst := stays_at (go := isWanted) (ss := l.map Sp.s) hy2
        have HU := hidden (l9Used_any wr W4.heap.size b1 (some ⟨b, off, none⟩) d1 d2 n m L HLN.out.symm (H1.out.below hb.out) hb.out.size hlen (fun z hz => (HSL.out z hz).2.2) (k : Int))
        rw [HLL.out] at HU
        obtain ⟨u, hu⟩ : ∃ q, usedB (l.map Sp.s) (k : Int) = q := ⟨_, rfl⟩
        rw [hu] at HU hst
        obtain ⟨z, hz⟩ : ∃ q, y.loc = q := ⟨_, rfl⟩
        rw [hz] at p2
        have HST : Hid ((stays isWanted (l.map Sp.s) ms).take (k + 1) = (stays isWanted (l.map Sp.s) ms).take k ++ [!decide (z = -1) || u]) := by
          show _ = _
          rw [take_next hst, ← hz]; rfl
        clear hkl hbB hy hy2 hst hu hz hlt
        have key : ∀ (x : Bool) (W : World), Below wr.heap.size wr W → (!decide (z = -1) || u) = x → Hid ((W.alloc (.cells #[.bool x] 4)).ownsRow W4.heap.size 4 1 (.slice ka k kc) k (((stays isWanted (l.map Sp.s) ms).take k).map Value.bool)) ∧ Hid (Has (W.alloc (.cells #[.bool x] 4)) W.heap.size 4 #[.bool x]) ∧ Hid (W4.heap.size ≤ (W.alloc (.cells #[.bool x] 4)).heap.size) ∧ Hid (Below W4.heap.size W4 (W.alloc (.cells #[.bool x] 4))) := fun x W hW _ => by
          have hbw := hb.out.trans (hW.mono hb.out.size)
          exact ⟨(World.ownsRow.kept hrow.out (grown_only hW) (Classical.em _)).alloc _, Has.new _ _ _, Nat.le_trans hbw.size (by simp), hbw.alloc hbw.size _⟩
        have KEY := hidden key
        clear key
        by_cases he : z = -1
        · have hd : (z == -1) = true := by rw [he]; simp
          have hd2 : (z != -1) = false := by rw [he]; simp
          clear hrow hb
          go_wp2_with fail
          refine HU.out.mono ?_
          clear HU
          rintro e w6 ⟨rfl, hb6⟩
          obtain ⟨K1, K2, K3, K4⟩ := KEY.out u w6 hb6 (by rw [he]; simp)
          clear hb6 KEY q0 q1 p0 p1 p2 p3
          go_wp2_with (at_builtin; refine wpList_app_bool _ rfl _ _ rfl W4.heap.size _ k _ rfl K1.out w6.heap.size 1 u rfl K2.out (by omega) K3.out ?_)
          intro ka' kc' W8 hrow8 hg8
          have HROW8 : Hid (W8.ownsRow W4.heap.size 4 1 (.slice ka' (k + 1) kc') (k + 1) (((stays isWanted (l.map Sp.s) ms).take (k + 1)).map Value.bool)) := by
            show World.ownsRow _ _ _ _ _ _ _
            rw [HST.out, he, List.map_append]; simpa using hrow8
          have HB8 : Hid (Below W4.heap.size W4 W8) := K4.out.grown hg8 K3.out (fun q hq => (K1.out.lt q hq).1)
          clear hrow8 hg8 K1 K2 K3 K4 HST
          go_wp2_with fail
          go_roundw
          case rel => exact ⟨k + 1, ka', kc', by go_num, rfl, by omega, HB8, HROW8⟩
          case measure => simp [intOf]; omega
        · have hd : (z == -1) = false := by simp [he]
          have hd2 : (z != -1) = true := by simp [he]
          obtain ⟨K1, K2, K3, K4⟩ := KEY.out true wr (Below.refl _ _) (by simp [he])
          clear HU KEY hrow hb
          go_wp2_with (at_builtin; refine wpList_app_bool _ rfl _ _ rfl W4.heap.size _ k _ rfl K1.out wr.heap.size 1 true rfl K2.out (by omega) K3.out ?_)
          intro ka' kc' W8 hrow8 hg8
          have HROW8 : Hid (W8.ownsRow W4.heap.size 4 1 (.slice ka' (k + 1) kc') (k + 1) (((stays isWanted (l.map Sp.s) ms).take (k + 1)).map Value.bool)) := by
            show World.ownsRow _ _ _ _ _ _ _
            rw [HST.out, List.map_append]; simpa [he] using hrow8
          have HB8 : Hid (Below W4.heap.size W4 W8) := K4.out.grown hg8 K3.out (fun q hq => (K1.out.lt q hq).1)
          clear hrow8 hg8 K1 K2 K3 K4 HST p0 p1 p2 p3 q0 q1
          go_wp2_with fail
          go_roundw
          case rel => exact ⟨k + 1, ka', kc', by go_num, rfl, by omega, HB8, HROW8⟩
          case measure => simp [intOf]; omega
      · have hilt : ¬ (k : Int) < (m : Int) := by omega
        have hkm : k = m := by omega
        subst hkm
        have hrowf : wr.ownsRow W4.heap.size 4 1 (.slice ka k kc) k ((stays isWanted (l.map Sp.s) ms).map Value.bool) := by
          have := hrow.out
          rwa [List.take_of_length_le (by rw [stays_length, ← HM.out]; exact Nat.le_refl _)] at this
        have hkl : (stays isWanted (l.map Sp.s) ms).length = k := by rw [stays_length]; exact HM.out.symm
        have hvals : Vals wr wr.heap.size ka ((stays isWanted (l.map Sp.s) ms).map Value.bool) := by
          obtain ⟨a', c', e', _, hv⟩ := vals_of_own (by rw [List.length_map, hkl]; exact hrowf)
          injection e' with e1
          subst e1; exact hv
        have HKP := hidden (l9Keep_any wr wr.heap.size b1 b2 d1 d2 n k L ms HLN.out.symm HM.out ((H1.out.below hb.out).more hb.out.size) ((H2.out.below hb.out).more hb.out.size) (Nat.le_refl _) hlen hlem HSL.out (stays isWanted (l.map Sp.s) ms) ka kc hvals hkl (fun y hy f hf => by
          have := (HPA.out.2.2 y.s (List.mem_map_of_mem hy)).2.2 f hf
          rw [HM.out]; exact this))
        rw [HLL.out] at HKP
        have HAN : Hid (stripA isWanted (l.map Sp.s) ms = ((l.map Sp.s).map (fixTo (keptN (stays isWanted (l.map Sp.s) ms))), keptL (stays isWanted (l.map Sp.s) ms) ms)) := by
          show _ = _
          unfold stripA
          rw [if_pos (by rw [← HLL.out]; exact HOK.out)]
        have HWR := hidden hb.out
        clear hlt hrow hrowf hkl hvals hb hk
        go_wp2_with fail
        refine HKP.out.mono ?_
        clear HKP q0 q1
        rintro e w6 ⟨L6, e1, e2, g1, g2, rfl, hL6, hown6, hb6⟩
        dsimp only at hL6 hown6
        dsimp only
        have hb6w : Below W4.heap.size W4 w6 := HWR.out.trans (hb6.mono HWR.out.size)
        have hr6 := HR4.out.below hb6w HR4.out.lt
        have r0 : w6.cell? ⟨w.heap.size + 1, 0, none⟩ = some (.slice none 0 0) := hr6.cell 0
        have r1 : w6.cell? ⟨w.heap.size + 1, 1, none⟩ = some (.slice none 0 0) := hr6.cell 1
        have u0 : w6.frozen? ⟨w.heap.size + 1, 0, none⟩ = false := hr6.free 0
        have u1 : w6.frozen? ⟨w.heap.size + 1, 1, none⟩ = false := hr6.free 1
        obtain ⟨N6, hN6⟩ : ∃ q, L6.length = q := ⟨_, rfl⟩
        obtain ⟨M6, hM6⟩ : ∃ q, (keptL (stays isWanted (l.map Sp.s) ms) ms).length = q := ⟨_, rfl⟩
        rw [hN6, hM6] at hown6
        rw [hN6, hM6]
        have hg7 : w6.grownBy ((w6.setCell ⟨w.heap.size + 1, 0, none⟩ (.slice e1 N6 g1)).setCell ⟨w.heap.size + 1, 1, none⟩ (.slice e2 M6 g2)) (some (w.heap.size + 1)) := only_trans (only_put' 0 _) (only_put' 1 _)
        have hlo : w.heap.size + 1 < wr.heap.size := Nat.lt_of_lt_of_le HR4.out.lt HWR.out.size
        have hb6v : Below w.heap.size w w6 := HB4.out.trans (hb6w.mono HB4.out.size)
        have HB7 : Hid (Below w.heap.size w ((w6.setCell ⟨w.heap.size + 1, 0, none⟩ (.slice e1 N6 g1)).setCell ⟨w.heap.size + 1, 1, none⟩ (.slice e2 M6 g2))) := hb6v.grown hg7 hb6v.size (by intro q hq; injection hq with hq; omega)
        have hown7 := hown6.under hlo hg7
        have HP : Hid (Has ((w6.setCell ⟨w.heap.size + 1, 0, none⟩ (.slice e1 N6 g1)).setCell ⟨w.heap.size + 1, 1, none⟩ (.slice e2 M6 g2)) (w.heap.size + 1) 26 #[.slice e1 N6 g1, .slice e2 M6 g2]) := (hr6.put 0 _).put 1 _
        have HOWN7 := hidden hown7
        have HL6 := hidden hL6
        have HN6 := hidden hN6
        have HM6 := hidden hM6
        have HLO : Hid (w.heap.size ≤ wr.heap.size) := by show _ ≤ _; omega
        clear hL6 hown6 hb6 hb6w hr6 hN6 hM6 hg7 hlo hb6v hown7
        go_wp2_with fail
        refine bodyPost_ret (results_cell_row rfl _ _ (w.heap.size + 1) 26 #[.slice e1 N6 g1, .slice e2 M6 g2] (0, 0) _ rfl HP.out Try.underlying26 rfl (by kernel_rfl)) rfl ?_
        rw [HAN.out]
        refine ⟨L6, e1, e2, g1, g2, ?_, HL6.out, ?_, HB7.out⟩
        · dsimp only; rw [HN6.out, HM6.out]
        · dsimp only
          rw [HN6.out, HM6.out]
          exact ⟨HB7.out.size, HOWN7.out.len, HOWN7.out.lem, HOWN7.out.secs.lower HLO.out, row_lower HOWN7.out.syms HLO.out⟩

end Go.Proofs.Ytlkhfgfficehcaa

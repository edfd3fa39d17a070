import Derived.Test.YtpfombelhajmlaaGreatDoorDrawD8
import Derived.Test.YtpfombelhajmlaaGreatDoorLawD4
import Derived.Test.YtpfombelhajmlaaGreatDoorRdH
import Derived.Test.YtpfombelhajmlaaGreatDoorSamE
import Derived.Test.YtpfombelhajmlaaGreatDoorSameT
namespace Go.Proofs.YtpfombelhajmlaaGreatDoor
open Go.RowKit
theorem wp_append_strs {o : Oper} {a : Act} {w : World} {K : Act → World → Prop} {Q : Exit → Act → World → Prop} (s x : Operand) (ho : o.op = .call { callee := .builtin .append, args := #[s, x], argTypes := #[28, 28] })
    (base : Nat) (v : Value) (N : Nat) (L : List ByteArray) (hs : a.eval s = v) (hown : w.ownsRow base 9 1 v N (L.map Value.string)) (ad : Option Addr) (m c B : Nat) (l : List ByteArray) (hm : m = l.length) (hx : a.eval x = .slice ad m c) (hi : Vals w B ad (l.map Value.string)) (h63 : N + m ≤ 1000000000) (hbase : base ≤ w.heap.size)
    (h : ∀ v' w', w'.ownsRow base 9 1 v' (N + m) ((L ++ l).map Value.string) → w.grownBy w' v.ownBlock → K (a.put o.dst v') w') : o.wp Tryz.prog a w K Q := by
  obtain ⟨i0, hi0, hz0, hz1, hz2⟩ := info_parts Tryz.info_str
  rcases Nat.eq_zero_or_pos l.length with h0 | hpos
  · rcases ad with _ | ⟨b, off, ext⟩
    · obtain rfl : l = [] := List.eq_nil_of_length_eq_zero h0
      obtain rfl : m = 0 := by rw [hm]; rfl
      unfold Oper.wp execOp
      simp only [ho, resolve, invoke, builtin, Sem.run_bind, Sem.run_pure, Result.andThen_ok, List.map_toArray, List.map_cons, List.map_nil, hs, hx, run_append_none 28 o.type i0 Tryz.underlying28 hi0 v N _ hown c]
      refine h v w ?_ ⟨rfl, rfl, rfl, Nat.le_refl _, fun _ _ _ => rfl⟩
      rw [Nat.add_zero, List.append_nil]; exact hown
    · obtain rfl : l = [] := List.eq_nil_of_length_eq_zero h0
      refine wp_append_own w s x 28 ho base 9 i0 (.string ⟨#[]⟩) 1 16 Tryz.underlying28 hi0 hz0 hz1 hz2 rfl (by decide) v N (L.map Value.string) hs hown ⟨b, off, ext⟩ m c [] hx (by rw [hm]; rfl) (fun j u hu => by simp at hu) (fun u hu => by simp at hu) (by unfold maxLen; omega) (by omega) hbase fun v' w' h1 h2 _ => h v' w' ?_ h2
      simpa using h1
  · obtain ⟨b, off, e, hc⟩ := vals_row hi hpos
    rw [e] at hx
    refine wp_append_own w s x 28 ho base 9 i0 (.string ⟨#[]⟩) 1 16 Tryz.underlying28 hi0 hz0 hz1 hz2 rfl (by decide) v N (L.map Value.string) hs hown ⟨b, off, none⟩ m c (l.map Value.string) hx (by rw [List.length_map, hm, Nat.mul_one]) (fun j u hu => ?_) (fun u hu => ?_) (by unfold maxLen; omega) (by omega) hbase fun v' w' h1 h2 _ => h v' w' ?_ h2
    · have hj : j < l.length := by
        rcases Nat.lt_or_ge j l.length with h | h
        · exact h
        · rw [List.getElem?_eq_none (by rw [List.length_map]; exact h)] at hu; cases hu
      have e2 : (⟨b, off, none⟩ : Addr).add j = ⟨b, off + j, none⟩ := by unfold Addr.add; split <;> simp_all
      rw [e2, hc j hj, ← hu, List.getElem?_map, List.getElem?_eq_getElem hj, List.getD_eq_getElem?_getD, List.getElem?_eq_getElem hj]
      rfl
    · obtain ⟨z, _, rfl⟩ := List.mem_map.1 hu; rfl
    · rw [List.map_append]; exact h1
theorem wpList_append_strs {ops : Array Oper} {rest : List Oper} {o : Oper} {a : Act} (w : World) {Q : Exit → Act → World → Prop} (hgd : o.guard = none) (s x : Operand) (ho : o.op = .call { callee := .builtin .append, args := #[s, x], argTypes := #[28, 28] })
    (base : Nat) (v : Value) (N : Nat) (L : List ByteArray) (hs : a.eval s = v) (hown : w.ownsRow base 9 1 v N (L.map Value.string)) (ad : Option Addr) (m c B : Nat) (l : List ByteArray) (hm : m = l.length) (hx : a.eval x = .slice ad m c) (hi : Vals w B ad (l.map Value.string)) (h63 : N + m ≤ 1000000000) (hbase : base ≤ w.heap.size)
    (h : ∀ v' w', w'.ownsRow base 9 1 v' (N + m) ((L ++ l).map Value.string) → w.grownBy w' v.ownBlock → wpList Tryz.prog ops Q rest (a.put o.dst v') w') : wpList Tryz.prog ops Q (o :: rest) a w :=
  wpList_plain hgd fun _ hK => wp_append_strs s x ho base v N L hs hown ad m c B l hm hx hi h63 hbase fun v' w' h2 h3 => hK _ _ (h v' w' h2 h3)
def GotL (w : World) (e : Ending) (w' : World) : Prop := ∃ (S : List ByteArray) (a : Option Addr) (c : Nat), e = .returned (.slice a S.length c) ∧ S.length ≤ 101 ∧ (∀ t ∈ S, t.size ≤ 1000) ∧ S.length ≤ c ∧ c ≤ maxLen ∧ Vals w' w'.heap.size a (S.map Value.string) ∧ Below w.heap.size w w'
theorem own_strs {W : World} {base : Nat} {v : Value} {S : List ByteArray} (h : W.ownsRow base 9 1 v S.length (S.map Value.string)) : ∃ a c, v = .slice a S.length c ∧ S.length ≤ c ∧ c ≤ maxLen ∧ Vals W W.heap.size a (S.map Value.string) := by
  have h2 : W.ownsRow base 9 1 v (S.map Value.string).length (S.map Value.string) := by rw [List.length_map]; exact h
  obtain ⟨a, c, hv, hc, hvv⟩ := vals_of_own h2
  rw [List.length_map] at hv hc
  refine ⟨a, c, hv, hc, ?_, hvv⟩
  rcases h.2 with ⟨e, _⟩ | ⟨g, cap, cur, e, _, _, _, hm, _⟩
  · rw [e] at hv; injection hv with _ _ h3; omega
  · rw [e] at hv; injection hv with _ _ h3; omega
set_option maxRecDepth 100000 in
set_option maxHeartbeats 2000000 in
theorem drawReadDump_any (w : World) (a : Option Addr) (cap : Nat) (l : List Int) (h : Ints w .u8 w.heap.size a l) (hcap : l.length ≤ cap) (hlen : cap ≤ 9223372036854775807) :
    Calls Tryz.prog 14 #[.slice a l.length cap] w (GotL w) := by
  have HO := hidden (l20Open_any w a cap l h hcap hlen)
  clear h
  go_enter Tryz.func14, Tryz.ntmps14
  go_wp2_with fail
  refine HO.out.mono ?_
  clear HO
  rintro e w1 ⟨rfl, hr1, hb1⟩
  have HX := hidden (l20Object_any w1 w.heap.size w.heap.size 0 0 hr1 (by omega) (by omega) (by omega))
  have hlt1 := hr1.lt
  have HB1 := hidden hb1
  clear hr1 hb1
  go_wp2_with fail
  refine HX.out.mono ?_
  clear HX
  rintro e w2 ⟨a1, a2, c1, c2, ss, ms, rfl, h8, h20, hS, hM, hsm, hr2, hg2⟩
  have hss : ∀ y ∈ ss, y.s.small := hS.small
  have hsf : ∀ y ∈ ss, y.s.fits := fun y hy => (hss y hy).fits'
  have hmf : ∀ x ∈ ms, x.fits := fun x hx => (hsm x hx).fits
  have HDU := hidden (dumpObject'_any w2 w2.heap.size a1 a2 c1 c2 ss.length ms.length ss ms rfl rfl hS.sects (syms_of_own hM) (Nat.le_refl _) (by omega) (by omega) (fun y hy => (hsf y hy).lens) (fun x hx => (hmf x hx).name))
  have HB2 : Hid (Below w.heap.size w w2) := HB1.out.grown hg2 HB1.out.size (by intro q hq; injection hq with hq; omega)
  obtain ⟨D, hD⟩ : ∃ q, dumpT ss ms = q := ⟨_, rfl⟩
  have hD1 : D.length ≤ 100 := by rw [← hD]; exact dumpX_short (ss.map Sp.s) ms
  have hD2 : ∀ t ∈ D, t.size ≤ 1000 := by rw [← hD]; exact dumpX_small hsf hmf
  rw [hD] at HDU
  have hgw : w.heap.size < w2.heap.size := hr2.lt
  have HR2 := hidden hr2
  have HD2 := hidden hD2
  clear hS hM hsm hss hsf hmf hD hg2 hr2 hD2 h8 h20
  go_wp2_with fail
  refine HDU.out.mono ?_
  clear HDU
  rintro e w3 ⟨v, rfl, hrow, hb3⟩
  have hr3 := HR2.out.below hb3 hgw
  have HB3 := hidden (HB2.out.trans (hb3.mono HB2.out.size))
  have HOD := hidden (odd_any w3 w.heap.size w.heap.size (0 + 2000) 3 hr3 (by omega) (by omega) (by omega))
  obtain ⟨av, cv, hvs⟩ := own_shape hrow
  subst hvs
  have HROW := hidden hrow
  have hgw3 : w2.heap.size ≤ w3.heap.size := hb3.size
  clear hrow hb3 hr3
  go_wp2_with fail
  refine HOD.out.mono ?_
  clear HOD
  rintro e w4 ⟨b, rfl, hr4, hg4⟩
  have hrow4 := HROW.out.kept hg4 (row_high HROW.out hgw)
  have HB4 : Hid (Below w.heap.size w w4) := HB3.out.grown hg4 HB3.out.size (by intro q hq; injection hq with hq; omega)
  have hgw4 : w3.heap.size ≤ w4.heap.size := hg4.size
  rcases b with _ | _
  · obtain ⟨a', c', e', h1, h2, h3⟩ := own_strs hrow4
    injection e' with e1 _ e3
    subst e1 e3
    have HF : Hid (GotL w (.returned (.slice av D.length cv)) w4) := ⟨D, av, cv, rfl, by omega, HD2.out, h1, h2, h3, HB4.out⟩
    clear hrow4 hr4 hg4 h1 h2 h3 HROW
    go_wp2_with fail
    go_ret
    exact HF.out
  have HR4 := hidden hr4
  have HV4 := hidden (own_strs hrow4)
  have HG : Hid (w.heap.size < w4.heap.size) := by show _ < _; omega
  clear hr4 hg4 hrow4 HROW
  have hvl : Vals w4 w4.heap.size av (D.map Value.string) := by
    obtain ⟨a', c', e', _, _, h3⟩ := HV4.out
    injection e' with e1
    subst e1
    exact h3
  have HVL := hidden hvl
  clear hvl HV4
  have HOWN : Hid ((w4.alloc (.cells #[] 9)).ownsRow w4.heap.size 9 1 (.slice (some ⟨w4.heap.size, 0, none⟩) 0 0) 0 (([] : List ByteArray).map Value.string)) := World.ownsRow_lit (base := w4.heap.size) (e := 9) (size := 1) w4 #[] 0 (Nat.le_refl _) (by unfold maxLen; omega) rfl
  have HVA := hidden (HVL.out.below ((Below.refl w4.heap.size w4).alloc (Nat.le_refl _) (.cells #[] 9)))
  have hst : w4.heap.size ≤ (w4.alloc (.cells #[] 9)).heap.size := by simp
  go_wp2_with (at_builtin; refine wpList_append_strs _ rfl _ _ rfl w4.heap.size _ 0 [] rfl HOWN.out av D.length cv _ D rfl rfl HVA.out (by omega) hst ?_)
  intro v5 w5 hrow5 hg5
  have hrow5' : w5.ownsRow w4.heap.size 9 1 v5 D.length (D.map Value.string) := by simpa using hrow5
  obtain ⟨b5, d5, rfl⟩ := own_shape hrow5'
  have hB5 : Below w4.heap.size w4 w5 := ((Below.refl w4.heap.size w4).alloc (Nat.le_refl _) _).grown hg5 (by simp) (by intro q hq; simp [Value.ownBlock] at hq; omega)
  have HR5 := hidden (HR4.out.below hB5 HG.out)
  have HROW5 := hidden hrow5'
  have HB5 := hidden hB5
  have HPI : Hid (∀ W, Rd W w.heap.size w.heap.size (0 + 2000 + 1) → Calls Tryz.prog 39 #[.pointer (some ⟨w.heap.size, 0, none⟩), .int .i64 10] W (Picked W w.heap.size w.heap.size (0 + 2000 + 1) 10)) := fun W hW => pick_any W _ _ _ 10 hW (by omega) (by omega) (by omega)
  have hs45 : w4.heap.size ≤ w5.heap.size := hB5.size
  clear hrow5 hrow5' hg5 hB5 HOWN HVA hst
  go_wp2_with fail
  refine (HPI.out _ (HR5.out.alloc _)).mono ?_
  clear HPI
  rintro e w6 ⟨x, rfl, hx0, hx10, hr6, hg6⟩
  have hne : w5.heap.size ≠ w.heap.size := by have := HG.out; omega
  have hm6 := (Has.new w5 _ _).grown hg6 (by intro e; injection e with e; exact hne e)
  obtain ⟨j, rfl⟩ := Int.eq_ofNat_of_zero_le hx0
  obtain ⟨t, c6, htz⟩ : ∃ t, w6.cell? ⟨w5.heap.size, j, none⟩ = some (.string t) ∧ t.size ≤ 1000 := by
    rw [hm6.cell]
    have hj : j = 0 ∨ j = 1 ∨ j = 2 ∨ j = 3 ∨ j = 4 ∨ j = 5 ∨ j = 6 ∨ j = 7 ∨ j = 8 ∨ j = 9 := by omega
    rcases hj with rfl | rfl | rfl | rfl | rfl | rfl | rfl | rfl | rfl | rfl <;> exact ⟨_, rfl, by decide⟩
  have hk6 : ∀ o : Obj, (w5.alloc o).grownBy w6 (some w.heap.size) → w6.ownsRow w4.heap.size 9 1 (.slice b5 D.length d5) D.length (D.map Value.string) := fun o ho => (HROW5.out.alloc o).kept ho (row_high (HROW5.out.alloc o) HG.out)
  have hrow6 := (hk6 _ hg6).alloc (.cells #[.string t] 9)
  have hs6 : w5.heap.size < w6.heap.size := hm6.lt
  have hkb : ∀ o : Obj, (w5.alloc o).grownBy w6 (some w.heap.size) → Below w.heap.size w w6 := fun o ho => ((HB4.out.trans (HB5.out.mono HB4.out.size)).alloc (by have := HG.out; omega) o).grown ho (by have := HG.out; simp; omega) (by intro q hq; injection hq with hq; omega)
  have HB6 := hidden (hkb _ hg6)
  have HROW6 := hidden hrow6
  have hn6 : Has (w6.alloc (.cells #[.string t] 9)) w6.heap.size 9 #[.string t] := Has.new _ _ _
  have HV6 : Hid (Vals (w6.alloc (.cells #[.string t] 9)) (w6.heap.size + 1) (some ⟨w6.heap.size, 0, none⟩) ([t].map Value.string)) := fun _ => ⟨w6.heap.size, 0, rfl, Nat.lt_succ_self _, fun i u hu => by
    rw [Nat.zero_add, hn6.cell]
    simpa using hu⟩
  have hst6 : w4.heap.size ≤ (w6.alloc (.cells #[.string t] 9)).heap.size := by simp; omega
  clear hm6 hrow6 hn6 hg6 hr6 hk6 hkb
  go_wp2_with (at_builtin; refine wpList_append_strs _ rfl _ _ rfl w4.heap.size _ D.length D rfl HROW6.out (some ⟨w6.heap.size, 0, none⟩) 1 1 _ [t] rfl rfl HV6.out (by omega) hst6 ?_)
  intro v7 w7 hrow7 hg7
  have hl7 : D.length + 1 = (D ++ [t]).length := by rw [List.length_append]; rfl
  have hlt7 := hrow7.lt
  rw [hl7] at hrow7
  have hrow8 : w7.ownsRow w4.heap.size 9 1 v7 (D ++ [t]).length ((D ++ [t]).map Value.string) := by rw [List.map_append]; exact hrow7
  obtain ⟨a7, c7, rfl, h1, h2, h3⟩ := own_strs hrow8
  have HF : Hid (GotL w (.returned (.slice a7 (D ++ [t]).length c7)) w7) := ⟨D ++ [t], a7, c7, rfl, by rw [← hl7]; omega, fun u hu => by
    rcases List.mem_append.1 hu with h | h
    · exact HD2.out u h
    · rw [List.mem_singleton.1 h]; exact htz, h1, h2, h3, (HB6.out.alloc (by have := HG.out; omega) _).grown hg7 (by have := HG.out; simp; omega) (fun q hq => by have := (HROW6.out.lt q hq).1; have := HG.out; omega)⟩
  clear hrow7 hrow8 hg7 h1 h2 h3 hlt7 HROW6 HV6
  go_wp2_with fail
  go_ret
  exact HF.out
end Go.Proofs.YtpfombelhajmlaaGreatDoor
namespace Go.Proofs.YtpfombelhajmlaaGreatDoor
open Go.RowKit
def SpecReadDump : Prop := ∀ (w : World) (B : Nat) (a : Option Addr) (n c : Nat) (S : List ByteArray), n = S.length → Vals w B a (S.map Value.string) → B ≤ w.heap.size → n ≤ 1048576 → (∀ s ∈ S, s.size ≤ 1048576) →
  Calls Tryz.prog 15 #[.slice a n c] w (ReadD w (S.map numsOf))
theorem nameD_short {s : ByteArray} (h : nameOk s.data.toList = true) : s.size ≤ 8 := by
  have := ((nameOk_iff _).1 h).1.2
  rw [Array.length_toList] at this
  exact this
theorem okD_fits {l : List Sp} {ms : List Sm} (h : objOk (l.map Sp.s) ms = true) : (∀ y ∈ l, y.s.fits) ∧ ∀ x ∈ ms, x.fits := by
  have ht := objOk_told h
  refine ⟨fun y hy => ?_, fun x hx => ?_⟩
  · have hs := ht.sec y hy
    obtain ⟨p1, p2, p3, _⟩ := sect_parts hs
    obtain ⟨k1, k2, k3⟩ := sect_bytes hs
    have hz : 0 ≤ y.s.size ∧ y.s.size ≤ 48 := by
      unfold sectOk at hs
      simp only [Bool.and_eq_true, decide_eq_true_eq] at hs
      exact hs.1.2
    have hm := ht.syms
    refine ⟨by have := nameD_short p1; unfold maxLen; omega, ⟨by omega, by omega⟩, ⟨by omega, by omega⟩, ⟨by omega, by omega⟩, by omega, by omega, fun f hf => ?_⟩
    obtain ⟨q1, q2, q3, q4⟩ := k3 f hf
    exact ⟨⟨by omega, by omega⟩, ⟨by omega, by omega⟩, ⟨by omega, by omega⟩, ⟨by omega, by omega⟩⟩
  · have hs := ht.sym x hx
    obtain ⟨b1, b2⟩ := sym_bytes ht hx
    have hv := sym_value ht hx
    have hn : nameOk x.name.data.toList = true := by
      unfold symOk at hs
      simp only [Bool.and_eq_true] at hs
      exact hs.1.1
    exact ⟨by have := nameD_short hn; unfold maxLen; omega, ⟨by omega, by omega⟩, ⟨by omega, by omega⟩, ⟨by omega, by omega⟩⟩
theorem rdD_lines {S : List ByteArray} {ss : List Sx} {ms : List Sm} (h : rdD (S.map numsOf) = some (ss, ms)) : dumpX ss ms = S := by
  obtain ⟨h1, h2⟩ := rdD_some h
  unfold dumpX
  rw [if_pos h1, h2, List.map_map]
  have hid : (strOfNums ∘ numsOf) = id := funext strOfNums_numsOf
  rw [hid, List.map_id]
set_option maxRecDepth 100000 in
set_option maxHeartbeats 4000000 in
theorem law_ReadDump (hR : WantReadDump) (hSp : SpecReadDump) (hW : WantDumpObject) (w : World) (hE : Libs w) (a0 : Option Addr) (len cap : Nat) (h : Came w a0 len cap) :
    Calls Tryz.prog 4 #[.slice a0 len cap] w fun e w' => e = .returned (.bool true) ∧ Below w.heap.size w w' := by
  obtain ⟨l0, h, rfl, hcap, hmax⟩ := h
  by_cases hbig : 1048576 < l0.length
  · have hd : (1048576 : Int) < (l0.length : Int) := by omega
    go_enter Tryz.func4, Tryz.ntmps4
    go_wp2
    go_ret
    exact ⟨rfl, Below.refl _ _⟩
  have hd : ¬ (1048576 : Int) < (l0.length : Int) := by omega
  have HD := hidden (drawReadDump_any w a0 cap l0 h hcap hmax)
  clear h
  go_enter Tryz.func4, Tryz.ntmps4
  go_wp2_with fail
  refine HD.out.mono ?_
  clear HD
  rintro e w1 ⟨t, tb, tc, rfl, ht, htz, htc, htm, hi1, hb1⟩
  have htm2 : tc ≤ 9223372036854775807 := by unfold maxLen at htm; omega
  have htz2 : ∀ s ∈ t, s.size ≤ 1048576 := fun s hs => Nat.le_trans (htz s hs) (by omega)
  have HRI := hidden (fun (W : World) (hB : Below w1.heap.size w1 W) => hR W w1.heap.size tb tc t (hE.below (hb1.trans (hB.mono hb1.size)) hE.lt) (hi1.below hB) hB.size (by omega) htz2 htc htm2)
  have HLI := hidden (fun (W : World) (hB : Below w1.heap.size w1 W) => (hE.below (hb1.trans (hB.mono hb1.size)) hE.lt).tabs)
  have HRS := hidden (fun (W : World) (hB : Below w1.heap.size w1 W) => hSp W w1.heap.size tb t.length tc t rfl (hi1.below hB) hB.size (by omega) htz2)
  have HI1 := hidden hi1
  obtain ⟨n, hn⟩ : ∃ q, t.length = q := ⟨_, rfl⟩
  rw [hn] at HRI HRS ht htc ⊢
  have HN := hidden hn
  have hC1 : Below w1.heap.size w1 w1 := Below.refl _ _
  have HB1 := hidden hb1
  have HW := hidden hW
  clear hi1 hn hR hSp hW hb1 hE htz htz2
  go_wp2_with fail
  refine (HRI.out w1 hC1).mono ?_
  clear HRI
  intro e w2 hr
  obtain ⟨ok1, ss1, ms1, a1, a2, c1, c2, he, hy1, hn1, hs1, hm1, hw1, hb2⟩ := hr.told
  subst he
  obtain ⟨k1, hk1⟩ : ∃ q, ss1.length = q := ⟨_, rfl⟩
  obtain ⟨j1, hj1⟩ : ∃ q, ms1.length = q := ⟨_, rfl⟩
  rw [hk1, hj1]
  have HX2 : Hid (Has (w2.alloc (.cells #[.slice a1 k1 c1, .slice a2 j1 c2] 26)) w2.heap.size 26 #[.slice a1 k1 c1, .slice a2 j1 c2]) := Has.new _ _ _
  have hC2 : Below w1.heap.size w1 (w2.alloc (.cells #[.slice a1 k1 c1, .slice a2 j1 c2] 26)) := hb2.alloc hb2.size _
  have HC2 := hidden hC2
  have HS1 := hidden hs1
  have HM1 := hidden hm1
  have HY1 := hidden hy1
  have HN1 := hidden hn1
  have HW1 := hidden hw1
  have HK1 := hidden hk1
  have HJ1 := hidden hj1
  clear hr hb2 hs1 hm1 hy1 hn1 hw1 hk1 hj1 hC1
  go_wp2_with fail
  refine (HRS.out _ hC2).mono ?_
  clear HRS hC2
  intro e w3 hr
  obtain ⟨ok2, ss2, ms2, e1, e2, g1, g2, he, hy2, hn2, hs2, hm2, hw2, hb3⟩ := hr.told
  subst he
  obtain rfl : ok1 = ok2 := by
    rcases ok1 with _ | _ <;> rcases ok2 with _ | _
    · rfl
    · have q1 := (HN1.out rfl).1; have q2 := hy2 rfl; rw [q1] at q2; cases q2
    · have q1 := HY1.out rfl; have q2 := (hn2 rfl).1; rw [q1] at q2; cases q2
    · rfl
  have hsame : ss1.map Sp.s = ss2.map Sp.s ∧ ms1 = ms2 := by
    rcases ok1 with _ | _
    · obtain ⟨_, r1, r2⟩ := HN1.out rfl
      obtain ⟨_, r3, r4⟩ := hn2 rfl
      rw [r1, r2, r3, r4]; exact ⟨rfl, rfl⟩
    · have q1 := HY1.out rfl
      have q2 := hy2 rfl
      rw [q1] at q2
      injection q2 with q2
      injection q2 with q2 q3
      exact ⟨q2, q3⟩
  obtain ⟨hsm, rfl⟩ := hsame
  have hk2 : ss2.length = k1 := by have := congrArg List.length hsm; rw [List.length_map, List.length_map] at this; rw [← this]; exact HK1.out
  rw [hk2, HJ1.out]
  have hfit : (∀ y ∈ ss1, y.s.fits) ∧ ∀ x ∈ ms1, x.fits := by
    rcases ok1 with _ | _
    · obtain ⟨_, r1, r2⟩ := HN1.out rfl
      rw [r1, r2]; exact ⟨by simp, by simp⟩
    · exact okD_fits (rdD_some (HY1.out rfl)).1
  have hk8 : k1 ≤ 8 ∧ j1 ≤ 12 := by
    rcases ok1 with _ | _
    · obtain ⟨_, r1, r2⟩ := HN1.out rfl
      rw [← HK1.out, ← HJ1.out, r1, r2]; exact ⟨by simp, by simp⟩
    · have ht := objOk_told (rdD_some (HY1.out rfl)).1
      rw [← HK1.out, ← HJ1.out]; exact ⟨ht.secs, ht.syms⟩
  have hC3 : Below w2.heap.size w2 w3 := ((Below.refl _ _).alloc (Nat.le_refl _) _).trans (hb3.mono (by simp))
  have HX3 := hidden ((HX2.out.below hb3 HX2.out.lt).alloc (.cells #[.slice e1 k1 g1, .slice e2 j1 g2] 26))
  have HZ3 : Hid (Has (w3.alloc (.cells #[.slice e1 k1 g1, .slice e2 j1 g2] 26)) w3.heap.size 26 #[.slice e1 k1 g1, .slice e2 j1 g2]) := Has.new _ _ _
  have hD3 : Below w3.heap.size w3 (w3.alloc (.cells #[.slice e1 k1 g1, .slice e2 j1 g2] 26)) := (Below.refl _ _).alloc (Nat.le_refl _) _
  have hE3 := HC2.out.trans ((hb3.trans (hD3.mono hb3.size)).mono HC2.out.size)
  obtain ⟨w4, hw4⟩ : ∃ q, w3.alloc (.cells #[.slice e1 k1 g1, .slice e2 j1 g2] 26) = q := ⟨_, rfl⟩
  rw [hw4] at HX3 HZ3 hD3 hE3
  have HSO := hidden (sameObject_yes w4 w4.heap.size a1 e1 a2 e2 c1 g1 c2 g2 k1 j1 ss1 ss2 ms1 hsm HK1.out.symm HJ1.out.symm ((HS1.out.below (hC3.trans (hD3.mono hC3.size))).more (Nat.le_trans hC3.size hD3.size)) ((hs2.below hD3).more hD3.size) ((HM1.out.below (hC3.trans (hD3.mono hC3.size))).more (Nat.le_trans hC3.size hD3.size)) ((hm2.below hD3).more hD3.size) (Nat.le_refl _) (by omega) (by omega) (fun y hy => (hfit.1 y hy).lens))
  have HF := hidden hfit
  have HE3 := hidden hE3
  have HD3 := hidden (hC3.trans (hD3.mono hC3.size))
  clear hr hb3 hy2 hn2 hs2 hm2 hw2 hsm hk2 hC3 hD3 hE3 hfit
  go_upto_region 6 with fail
  try rw [hw4]
  clear hw4
  have q0 : w4.cell? ⟨w2.heap.size, 0, none⟩ = some (.slice a1 k1 c1) := HX3.out.cell 0
  have q1 : w4.cell? ⟨w2.heap.size, 1, none⟩ = some (.slice a2 j1 c2) := HX3.out.cell 1
  have q2 : w4.cell? ⟨w3.heap.size, 0, none⟩ = some (.slice e1 k1 g1) := HZ3.out.cell 0
  have q3 : w4.cell? ⟨w3.heap.size, 1, none⟩ = some (.slice e2 j1 g2) := HZ3.out.cell 1
  have hrr : (ok1 != ok1) = false := by simp
  go_wp2_with fail
  refine HSO.out.mono ?_
  clear HSO q0 q1 q2 q3
  rintro e w5 ⟨rfl, hb5⟩
  have HX5 := hidden (HX3.out.below hb5 HX3.out.lt)
  have HC5 := hidden (HE3.out.trans (hb5.mono HE3.out.size))
  have HD5 := hidden (HD3.out.trans (hb5.mono HD3.out.size))
  have q0 : w5.cell? ⟨w2.heap.size, 0, none⟩ = some (.slice a1 k1 c1) := HX5.out.cell 0
  have q1 : w5.cell? ⟨w2.heap.size, 1, none⟩ = some (.slice a2 j1 c2) := HX5.out.cell 1
  have HFIN := hidden (HB1.out.trans (HC5.out.mono HB1.out.size))
  clear hb5 HX3 HZ3 HE3 HD3 HC2
  rcases ok1 with _ | _
  · obtain ⟨_, r1, r2⟩ := HN1.out rfl
    have hk0 : k1 = 0 := by rw [← HK1.out, r1]; rfl
    have hj0 : j1 = 0 := by rw [← HJ1.out, r2]; rfl
    subst hk0 hj0
    clear r1 r2
    go_wp2_with (go_at_call 11; refine (alive_any _).mono ?_; rintro e _ ⟨rfl, rfl⟩)
    go_ret
    exact ⟨rfl, HFIN.out⟩
  · have hdx := rdD_lines (HY1.out rfl)
    have HWO := hidden (HW.out w5 w5.heap.size a1 a2 c1 c2 ss1 ms1 (HLI.out w5 HC5.out) ((HS1.out.below HD5.out).more HD5.out.size) ((HM1.out.below HD5.out).more HD5.out.size) (Nat.le_refl _) (by have := HK1.out; omega) (by have := HJ1.out; omega) HF.out.1 HF.out.2)
    rw [HK1.out, HJ1.out, hdx] at HWO
    clear hdx
    go_wp2_with fail
    refine HWO.out.mono ?_
    clear HWO q0 q1
    rintro e w7 ⟨hr, hcp⟩
    obtain ⟨a7, c7, he, hi7, hb7⟩ := hr.told
    subst he
    have hC7 := HC5.out.trans (hb7.mono HC5.out.size)
    have HSB := hidden (sameTexts_yes w7 w7.heap.size w1.heap.size a7 tb c7 tc n t HN.out.symm hi7 (HI1.out.below hC7) (by omega))
    rw [HN.out]
    have HFIN7 := hidden (HB1.out.trans (hC7.mono HB1.out.size))
    clear hr hcp hb7 hi7 hC7
    go_wp2_with fail
    refine HSB.out.mono ?_
    rintro e _ ⟨rfl, m, rfl⟩
    go_wp2_with fail
    go_ret
    exact ⟨rfl, below_drewN HFIN7.out _⟩
end Go.Proofs.YtpfombelhajmlaaGreatDoor

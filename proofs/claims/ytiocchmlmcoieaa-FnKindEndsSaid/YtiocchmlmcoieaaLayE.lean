/-
  spec.KindEnds.
-/
import Derived.Test.YtiocchmlmcoieaaLayS
import Derived.Test.YtiocchmlmcoieaaRegionV
namespace Go.Proofs.Ytiocchmlmcoieaa
open Go.RowKit

theorem laid_same {L L' : List Oj} (h : L'.map Oj.o = L.map Oj.o) (base : Int) : layOk L' base = layOk L base ∧ laidL L' base = laidL L base := by
  have h1 : layOk L' base = layOk L base := by unfold layOk; rw [h]
  refine ⟨h1, ?_⟩
  unfold laidL
  rw [h1, secsOf_same h]
/-- Where the kinds begin and end. -/
def endsK (Ss : List (List Sx)) (base : Int) : List (List Int) := (List.range 3).map fun m => [upTo (layK Ss base m).e 8, (layK Ss base (m + 1)).e]
def endsL (L : List Oj) (base : Int) : List (List Int) := if layOk L base = true then endsK (secsOf L) base else []
/-- Lists of numbers that are answered. -/
def RowsE (w : World) (pl : List (List Int)) (n : Nat) (e : Ending) (w' : World) : Prop :=
  ∃ (a : Option Addr) (c : Nat), e = .returned (.slice a n c) ∧ AnsR w pl a n c w'
theorem endsK_take (Ss : List (List Sx)) (base : Int) {m : Nat} (h : m < 3) : (endsK Ss base).take (m + 1) = (endsK Ss base).take m ++ [[upTo (layK Ss base m).e 8, (layK Ss base (m + 1)).e]] := by
  have : (endsK Ss base)[m]? = some [upTo (layK Ss base m).e 8, (layK Ss base (m + 1)).e] := by unfold endsK; rw [List.getElem?_map, List.getElem?_range h]; rfl
  rw [List.take_add_one, this]
  rfl
set_option maxRecDepth 100000 in
set_option maxHeartbeats 8000000 in
theorem kindEnds'_any (w : World) (B : Nat) (a : Option Addr) (c n : Nat) (L : List Oj) (base : Int) (hn : n = L.length) (h : Objs w B a L) (hB : B ≤ w.heap.size) (hlen : n ≤ 1048576) (hl : ∀ y ∈ L, y.short) (N : Nat) (hN : (endsL L base).length = N) :
    Calls Try.prog 19 #[.slice a n c, .int .i64 base] w (RowsE w (endsL L base) N) := by
  have HOW := hidden (l1OwnObjectList_any w B a c n L hn h hB hlen hl)
  unfold OwnObs at HOW
  have HNN := hidden hN
  have HLS := hidden (fun (L1 : List Oj) (h1 : L1.map Oj.o = L.map Oj.o) => shortO_same h1 hl)
  clear h hl hB hN hn
  go_enter Try.func19, Try.ntmps19
  go_wp2_with fail
  refine HOW.out.mono ?_
  clear HOW
  rintro e w1 ⟨L1, a1, c1, rfl, hL1n, hL1o, hO1, hb1⟩
  have HSH := hidden (HLS.out L1 hL1o)
  have HO1 := hidden hO1
  have HLO := hidden hL1o
  have HB1 := hidden hb1
  obtain ⟨NP, hNP⟩ : ∃ q, (laidL L base).pl.length = q := ⟨_, rfl⟩
  obtain ⟨ok, hok⟩ : ∃ q, layOk L base = q := ⟨_, rfl⟩
  obtain ⟨X, hX⟩ : ∃ q, laidL L base = q := ⟨_, rfl⟩
  have HPS : Hid (Calls Try.prog 14 #[.slice a1 n c1, .int .i64 base] (w1.alloc (.cells #[] 39)) (PlacesE (w1.alloc (.cells #[] 39)) X NP ok)) := by
    have := placeSections'_any (w1.alloc (.cells #[] 39)) w1.heap.size a1 c1 n L1 base hL1n.symm (hO1.below ((Below.refl _ _).alloc (Nat.le_refl _) _)) (by simp) hlen HSH.out NP (by rw [(laid_same hL1o base).2]; exact hNP)
    rw [(laid_same hL1o base).1, (laid_same hL1o base).2, hX, hok] at this
    exact this
  have HOK := hidden hok
  have HX := hidden hX
  have HLN : Hid (L1.length = n) := hL1n
  have HR0 : Hid (Rw (w1.alloc (.cells #[] 39)) w1.heap.size (.slice (some ⟨w1.heap.size, 0, none⟩) 0 0) []) := Rw.nil (Nat.le_refl _)
  have HBA : Hid (Below w1.heap.size w1 (w1.alloc (.cells #[] 39))) := (Below.refl _ _).alloc (Nat.le_refl _) _
  clear hO1 hL1o hb1 hL1n HLS hok hX hNP
  unfold PlacesE at HPS
  go_wp2_with fail
  refine HPS.out.mono ?_
  clear HPS
  rintro e w2 ⟨pa, pc, rfl, pls, hpls, hNP, hRP, hb2⟩
  have HB2 : Hid (Below w1.heap.size w1 w2) := HBA.out.trans (hb2.mono HBA.out.size)
  have HR2 := hidden (HR0.out.only hb2)
  have HAP : Hid ((Value.slice pa NP pc).ownBlock = none ∨ (Value.slice pa NP pc).ownBlock ≠ (Value.slice (some ⟨w1.heap.size, 0, none⟩) 0 0).ownBlock) := by
    show _ ∨ _
    rcases hq : (Value.slice pa NP pc).ownBlock with _ | q
    · exact .inl rfl
    · refine .inr fun e => ?_
      have := (hRP.row.lt q hq).1
      simp [Value.ownBlock] at e
      simp at this
      omega
  have HRP := hidden (hRP.lower (lo' := w1.heap.size) (by simp))
  have HPLS := hidden hpls
  clear hb2 HBA HR0 hpls hNP hRP
  rcases ok with _ | _
  · have HF : Hid (RowsE w (endsL L base) N (.returned (.slice (some ⟨w1.heap.size, 0, none⟩) 0 0)) w2) := by
      have hN := HNN.out
      have he : endsL L base = [] := by unfold endsL; rw [HOK.out]; rfl
      rw [he] at hN
      have hN0 : N = 0 := by rw [← hN]; rfl
      subst hN0
      show RowsE _ _ _ _ _
      rw [he]
      exact ⟨_, 0, rfl, [], rfl, rfl, HR2.out.lower HB1.out.size, HB1.out.trans (HB2.out.mono HB1.out.size)⟩
    clear HR2 HB2 HAP HRP HPLS
    go_wp2_with fail
    go_ret
    exact HF.out
  have hvb : validA (L.map Oj.o) = true ∧ 0 ≤ base ∧ base ≤ 4096 := by
    have := HOK.out
    unfold layOk at this
    rw [Bool.and_eq_true] at this
    have h2 := of_decide_eq_true this.2
    exact ⟨this.1, h2.1, h2.2.1⟩
  have hfine := fine_of hvb.1 hvb.2.1 hvb.2.2
  change Fine (secsOf L) base at hfine
  obtain ⟨Ss, hSs⟩ : ∃ q, secsOf L = q := ⟨_, rfl⟩
  have HL1 : Hid (secsOf L1 = Ss) := (secsOf_same HLO.out).trans hSs
  have HRES : Hid (endsL L base = endsK Ss base) := by show _ = _; unfold endsL; rw [if_pos HOK.out, hSs]
  have HPL3 : Hid (pls.map Rn.r = (layK Ss base 3).pl) := by show _ = _; rw [HPLS.out, ← HX.out, laid_yes HOK.out, hSs]
  rw [hSs] at hfine
  have HFI := hidden hfine
  have HSN : Hid (Ss.length = n) := by show _ = _; rw [← HL1.out]; unfold secsOf; rw [List.length_map]; exact HLN.out
  have HAT : Hid (∀ k : Nat, k < n → ∃ b off y, a1 = some ⟨b, off, none⟩ ∧ L1[k]? = some y ∧ Ss[k]? = some (y.l.map Sp.s) ∧ ∀ W, Below w1.heap.size w1 W → W.cell? ⟨b, off + k * 2, none⟩ = some (.slice y.a1 y.l.length y.c1) ∧ Sects W w1.heap.size y.a1 y.l) := fun k hk => by
    have hkl : k < L1.length := by rw [HLN.out]; exact hk
    obtain ⟨b, off, ha, hb, p0, _⟩ := HO1.out.at_ hkl
    have hy : L1[k]? = some L1[k] := List.getElem?_eq_getElem hkl
    refine ⟨b, off, L1[k], ha, hy, ?_, fun W hW => ⟨(hW.cell (by show b < _; exact hb)).trans p0, (HO1.out.below hW).secs _ (List.mem_of_getElem? hy)⟩⟩
    rw [← HL1.out]
    unfold secsOf
    rw [List.getElem?_map, hy]
    rfl
  -- the places as they stand
  have HPC : Hid (∀ (W : World) (k j : Nat) (ss : List Sx) (s : Sx), Rw W w1.heap.size (.slice pa NP pc) pls → Ss[k]? = some ss → ss[j]? = some s → ∃ (pq : Nat) (x : Rn), pa = some ⟨pq, 0, none⟩ ∧ k < NP ∧ j < x.r.length ∧ ∀ W', Below W.heap.size W W' → W'.cell? ⟨pq, k, none⟩ = some (.slice (some ⟨x.g, 0, none⟩) x.r.length x.r.length) ∧ W'.cell? ⟨x.g, j, none⟩ = some (.int .i64 (at2 (layK Ss base 3).pl k j))) := fun W k j ss s hR hk hj => by
    have hkl := (List.getElem?_eq_some_iff.1 hk).1
    have hjl := (List.getElem?_eq_some_iff.1 hj).1
    have hlen : (pls.map Rn.r).map List.length = Ss.map List.length := by rw [HPL3.out]; exact layK_lens Ss base 3
    have hpk : k < pls.length := by
      have := congrArg List.length hlen
      rw [List.length_map, List.length_map, List.length_map] at this
      omega
    have hx : pls[k]? = some pls[k] := List.getElem?_eq_getElem hpk
    obtain ⟨x, hxe⟩ : ∃ x, pls[k] = x := ⟨_, rfl⟩
    rw [hxe] at hx
    have hxr : x.r.length = ss.length := by
      have : ((pls.map Rn.r).map List.length)[k]? = (Ss.map List.length)[k]? := by rw [hlen]
      rw [List.getElem?_map, List.getElem?_map, List.getElem?_map, hx, hk] at this
      simpa using this
    obtain ⟨v0, hv0⟩ : ∃ v, x.r[j]? = some v := ⟨_, List.getElem?_eq_getElem (by omega)⟩
    have hat : at2 (layK Ss base 3).pl k j = v0 := by
      rw [← HPL3.out]
      unfold at2
      rw [List.getD_eq_getElem?_getD, List.getD_eq_getElem?_getD, List.getElem?_map, hx]
      show (x.r[j]?).getD 0 = v0
      rw [hv0]
      rfl
    obtain ⟨pq, hpa, _, c0⟩ := hR.at_ hx
    refine ⟨pq, x, hpa, ?_, by omega, fun W' hb => ?_⟩
    · have := hR.row.1
      rcases hR.row.2 with ⟨_, h0⟩ | ⟨_, _, _, e, _⟩
      · omega
      · have := (Value.slice.inj e).2.1
        omega
    · have hR' := hR.only hb
      obtain ⟨pq', hpa', _, c0'⟩ := hR'.at_ hx
      rw [hpa] at hpa'
      injection hpa' with hpa'
      injection hpa' with hpa'
      subst hpa'
      rw [hat]
      exact ⟨c0', (hR'.num hx hv0).1⟩
  clear hfine hSs hvb
  go_wp2_with fail
  go_loopw [5, 9, 10] (fun ov av i wr => ∃ (m : Nat) (E : Int) (rs : List Rn) (va : Option Addr) (vc : Nat), i = .int .i64 ((m : Int) + 1) ∧ av = .int .i64 E ∧ ov = .slice va m vc ∧ m ≤ 3 ∧ Hid (Rw wr w1.heap.size (.slice va m vc) rs) ∧ Hid (Rw wr w1.heap.size (.slice pa NP pc) pls) ∧ Hid ((Value.slice pa NP pc).ownBlock = none ∨ (Value.slice pa NP pc).ownBlock ≠ (Value.slice va m vc).ownBlock) ∧ Hid (Below w1.heap.size w1 wr) ∧ Hid (rs.map Rn.r = (endsK Ss base).take m) ∧ Hid ((layK Ss base m).e = E)) (fun _ _ i _ => 4 - (intOf i).toNat)
  case atStart => exact ⟨0, base, [], some ⟨w1.heap.size, 0, none⟩, 0, rfl, rfl, rfl, by omega, HR2, HRP, HAP, HB2, rfl, rfl⟩
  case round =>
    clear HR2 HRP HAP HB2
    obtain ⟨m, E, rs, va, vc, rfl, rfl, rfl, hm, hR, hRP, hAP, hb, hrs, hE⟩ := hrel
    by_cases hm3 : m < 3
    · have hi : (m : Int) + 1 ≤ 3 := by omega
      obtain ⟨F, hF⟩ : ∃ q, upTo E 8 = q := ⟨_, rfl⟩
      have HA := hidden (fun W => alignUp'_any E 8 W)
      rw [hF] at HA
      have HE0 : Hid ((stK Ss base m 0 0).e = F) := by show upTo (layK Ss base m).e 8 = F; rw [hE.out]; exact hF
      have HF : Hid (upTo (layK Ss base m).e 8 = F) := by show _ = _; rw [hE.out]; exact hF
      have HM3 := hidden hm3
      have HPCW := hidden (fun (k j : Nat) (ss : List Sx) (s : Sx) => HPC.out wr k j ss s hRP.out)
      have HRLN : Hid (rs.length = m) := by
        show _ = _
        have := hR.out.row.2
        rcases this with ⟨e, h0⟩ | ⟨_, _, _, e, _⟩
        · have := (Value.slice.inj e).2.1; omega
        · have := (Value.slice.inj e).2.1; omega
      clear hE hF hm hm3
      go_wp2_with fail
      refine (HA.out _).mono ?_
      clear HA
      rintro e w' ⟨rfl, rfl⟩
      go_wp2_with fail
      obtain ⟨wk, hwk⟩ : ∃ q, q = wr := ⟨wr, rfl⟩
      subst wr
      go_loopw [9, 12] (fun av i ws => ∃ (p : Nat) (E : Int), i = .int .i64 p ∧ av = .int .i64 E ∧ p ≤ n ∧ Hid (Below wk.heap.size wk ws) ∧ Hid ((stK Ss base m p 0).e = E)) (fun _ i _ => n - (intOf i).toNat)
      case atStart => exact ⟨0, F, rfl, rfl, Nat.zero_le _, Below.refl _ _, HE0⟩
      case round =>
        clear HE0
        obtain ⟨p, E2, rfl, rfl, hp, hbs, hE⟩ := hrel
        by_cases hlt : p < n
        · have hilt : (p : Int) < (n : Int) := by omega
          obtain ⟨b, off, y, rfl, hy, hss, hpp⟩ := HAT.out p hlt
          obtain ⟨q, hq⟩ : ∃ q, y.l.length = q := ⟨_, rfl⟩
          rw [hq] at hpp
          have hq8 : q ≤ 8 := by have := HFI.out.each _ (List.mem_of_getElem? hss); rw [List.length_map] at this; omega
          have HPP := hidden hpp
          have HSS := hidden hss
          have HQ := hidden hq
          have HLT := hidden hlt
          have HYM := hidden (List.mem_of_getElem? hy)
          have HBS0 := hbs
          have HE0 := hE
          clear hy hss hpp hq hbs hE hlt hp
          go_wp2_with fail
          go_loopw [9, 13] (fun av i ws => ∃ (j : Nat) (E : Int), i = .int .i64 j ∧ av = .int .i64 E ∧ j ≤ q ∧ Hid (Below wk.heap.size wk ws) ∧ Hid ((stK Ss base m p j).e = E)) (fun _ i _ => q - (intOf i).toNat)
          case atStart => exact ⟨0, E2, rfl, rfl, Nat.zero_le _, HBS0, HE0⟩
          case round =>
            clear HBS0 HE0
            obtain ⟨j, E3, rfl, rfl, hj, hbs, hE⟩ := hrel
            have HBW := hidden (hb.out.trans (hbs.out.mono hb.out.size))
            obtain ⟨p0, hsec⟩ := HPP.out wr HBW.out
            by_cases hjl : j < q
            · have hij : (j : Int) < (q : Int) := by omega
              have hjy : j < y.l.length := by rw [HQ.out]; exact hjl
              obtain ⟨b2, off2, ha1, hb2, t0, t1, t2, t3, t4, t5⟩ := hsec.at_ hjy
              obtain ⟨z, hz⟩ : ∃ z, y.l[j] = z := ⟨_, rfl⟩
              rw [hz] at t0 t1 t2 t3 t4 t5
              have hsj : (y.l.map Sp.s)[j]? = some z.s := by rw [List.getElem?_map, List.getElem?_eq_getElem hjy, hz]; rfl
              have hzok := HFI.out.ok _ (List.mem_of_getElem? HSS.out) _ (List.mem_of_getElem? hsj)
              have hzb := (HSH.out y HYM.out).1.2 z (by rw [← hz]; exact List.getElem_mem hjy)
              have hlg : 0 ≤ z.s.long ∧ z.s.long ≤ 48 := hzok.2.1
              have HSZ := hidden (fun W => sectionSize'_any W z.s z.a1 z.c1 z.a2 z.c2 (by have := hzb.2.1; omega))
              have HNO : Hid (z.s.kind ≠ (m : Int) + 1 → stK Ss base m p (j + 1) = stK Ss base m p j) := fun hk => stK_no HSS.out hsj hk
              have HYES : Hid (z.s.kind = (m : Int) + 1 → (stK Ss base m p (j + 1)).e = at2 (layK Ss base 3).pl p j + z.s.long) := fun hk => by
                rw [stK_yes HSS.out hsj hk, HFI.out.place HSS.out hsj hk]
                rfl
              obtain ⟨pq, x, hpa, hpN, hjx, hpc⟩ := HPCW.out p j _ _ HSS.out hsj
              obtain ⟨lg, hlg2⟩ : ∃ q, z.s.long = q := ⟨_, rfl⟩
              rw [hlg2] at hlg HSZ HYES
              obtain ⟨⟨nm, kd, al, bs, sz, fs⟩, z1, d1, z2, d2⟩ := z
              unfold Sx.agg at HSZ
              dsimp only at t0 t1 t2 t3 t4 t5 HSZ HNO HYES
              obtain ⟨nb, hnb⟩ : ∃ q, bs.length = q := ⟨_, rfl⟩
              obtain ⟨nf, hnf⟩ : ∃ q, fs.length = q := ⟨_, rfl⟩
              rw [hnb] at t3 HSZ
              rw [hnf] at t5 HSZ
              have HJL := hidden hjl
              rw [ha1] at p0
              obtain ⟨U, hU⟩ : ∃ q, at2 (layK Ss base 3).pl p j = q := ⟨_, rfl⟩
              rw [hU] at HYES hpc
              obtain ⟨xl, hxl⟩ : ∃ q, x.r.length = q := ⟨_, rfl⟩
              rw [hxl] at hjx hpc
              have hUb : kd = (m : Int) + 1 → -1 ≤ U ∧ U ≤ 1000007 := fun hk => by
                rw [← hU, HFI.out.place HSS.out hsj hk]
                exact upTo_bd _ _
              have HPC2 := hidden hpc
              have HBWA : Hid (Below wk.heap.size wk (wr.alloc (.cells #[.string nm, .int .i64 kd, .int .i64 al, .slice z1 nb d1, .int .i64 sz, .slice z2 nf d2] 42))) := hbs.out.alloc hbs.out.size _
              have HSa : Hid (Has (wr.alloc (.cells #[.string nm, .int .i64 kd, .int .i64 al, .slice z1 nb d1, .int .i64 sz, .slice z2 nf d2] 42)) wr.heap.size 42 #[.string nm, .int .i64 kd, .int .i64 al, .slice z1 nb d1, .int .i64 sz, .slice z2 nf d2]) := Has.new _ _ _
              have hjx2 : (j : Int) < (xl : Int) := by omega
              have hpN2 : (p : Int) < (NP : Int) := by omega
              clear hjy hz hsj hzok hzb hlg2 hnb hnf hjl hb2 ha1 hsec hU hxl hpc hjx hpN
              subst hpa
              by_cases hk : kd = (m : Int) + 1
              · have hkd : (kd == (m : Int) + 1) = true := by simp [hk]
                have HE4 := hidden (HYES.out hk)
                obtain ⟨u0, u1⟩ := hUb hk
                have hw3 : IntKind.i64.wrap (U + lg) = U + lg := IntWalk.i64_in _ (by omega)
                obtain ⟨W2, hW2⟩ : ∃ q, wr.alloc (.cells #[.string nm, .int .i64 kd, .int .i64 al, .slice z1 nb d1, .int .i64 sz, .slice z2 nf d2] 42) = q := ⟨_, rfl⟩
                obtain ⟨bx, hbx⟩ : ∃ q, wr.heap.size = q := ⟨_, rfl⟩
                rw [hW2] at HBWA
                rw [hW2, hbx] at HSa
                have HC : Hid (∀ W, Below W2.heap.size W2 W → (W.cell? ⟨pq, p, none⟩ = some (.slice (some ⟨x.g, 0, none⟩) xl xl) ∧ W.cell? ⟨x.g, j, none⟩ = some (.int .i64 U)) ∧ W.cell? ⟨bx, 0, none⟩ = some (.string nm) ∧ W.cell? ⟨bx, 1, none⟩ = some (.int .i64 kd) ∧ W.cell? ⟨bx, 2, none⟩ = some (.int .i64 al) ∧ W.cell? ⟨bx, 3, none⟩ = some (.slice z1 nb d1) ∧ W.cell? ⟨bx, 4, none⟩ = some (.int .i64 sz) ∧ W.cell? ⟨bx, 5, none⟩ = some (.slice z2 nf d2)) := fun W hW => by
                  have hS := HSa.out.below hW HSa.out.lt
                  exact ⟨HPC2.out W (HBWA.out.trans (hW.mono HBWA.out.size)), hS.cell 0, hS.cell 1, hS.cell 2, hS.cell 3, hS.cell 4, hS.cell 5⟩
                have HW2 := hidden hW2
                have HBX := hidden hbx
                clear hk HYES HNO hW2 hbx hbs hE hUb HPC2
                go_upto_region 19 with fail
                rw [HW2.out, HBX.out]
                clear HW2 HBX t0 t1 t2 t3 t4 t5 p0
                have k1 := (HC.out W2 (Below.refl _ _)).2.2.1
                go_upto_region 20 with fail
                clear k1
                refine wp_region_seq (by kernel_rfl) (fun W' => Below W2.heap.size W2 W') (by kernel_rfl) (Below.refl _ _).drew ?_
                refine SeqV.step (.slice (some ⟨pq, 0, none⟩) NP pc) (by rfl) (fun W hW => ?_) ?_
                · unfold Oper.wp
                  simp [go_sem]
                  try exact hW
                simp only [Act.put, List.setIfInBounds_toArray, List.set_cons_succ, List.set_cons_zero]
                refine SeqV.step (.int .i64 p) (by rfl) (fun W hW => ?_) ?_
                · unfold Oper.wp
                  simp [go_sem]
                  try exact hW
                simp only [Act.put, List.setIfInBounds_toArray, List.set_cons_succ, List.set_cons_zero]
                refine SeqV.step (.pointer (some ⟨pq, p, none⟩)) (by rfl) (fun W hW => ?_) ?_
                · have q := hpN2
                  unfold Oper.wp
                  simp [go_sem, q]
                  try exact hW
                simp only [Act.put, List.setIfInBounds_toArray, List.set_cons_succ, List.set_cons_zero]
                refine SeqV.step (.slice (some ⟨x.g, 0, none⟩) xl xl) (by rfl) (fun W hW => ?_) ?_
                · obtain ⟨⟨q0, _⟩, _⟩ := HC.out W hW
                  unfold Oper.wp
                  simp [go_sem, q0]
                  try exact hW
                simp only [Act.put, List.setIfInBounds_toArray, List.set_cons_succ, List.set_cons_zero]
                refine SeqV.step (.int .i64 j) (by rfl) (fun W hW => ?_) ?_
                · unfold Oper.wp
                  simp [go_sem]
                  try exact hW
                simp only [Act.put, List.setIfInBounds_toArray, List.set_cons_succ, List.set_cons_zero]
                refine SeqV.step (.pointer (some ⟨x.g, j, none⟩)) (by rfl) (fun W hW => ?_) ?_
                · have q := hjx2
                  unfold Oper.wp
                  simp [go_sem, q]
                  try exact hW
                simp only [Act.put, List.setIfInBounds_toArray, List.set_cons_succ, List.set_cons_zero]
                refine SeqV.step (.int .i64 U) (by rfl) (fun W hW => ?_) ?_
                · obtain ⟨⟨_, q1⟩, _⟩ := HC.out W hW
                  unfold Oper.wp
                  simp [go_sem, q1]
                  try exact hW
                simp only [Act.put, List.setIfInBounds_toArray, List.set_cons_succ, List.set_cons_zero]
                refine SeqV.step (.agg #[.string nm, .int .i64 kd, .int .i64 al, .slice z1 nb d1, .int .i64 sz, .slice z2 nf d2]) (by rfl) (fun W hW => ?_) ?_
                · obtain ⟨_, r0, r1, r2, r3, r4, r5⟩ := HC.out W hW
                  unfold Oper.wp
                  simp [go_sem, r0, r1, r2, r3, r4, r5]
                  try exact hW
                simp only [Act.put, List.setIfInBounds_toArray, List.set_cons_succ, List.set_cons_zero]
                refine SeqV.step (.int .i64 lg) (by rfl) (fun W hW => ?_) ?_
                · unfold Oper.wp
                  simp [go_sem]
                  refine (HSZ.out W).mono ?_
                  rintro e w' ⟨rfl, hb⟩
                  exact ⟨rfl, hW.trans (hb.mono hW.size)⟩
                simp only [Act.put, List.setIfInBounds_toArray, List.set_cons_succ, List.set_cons_zero]
                refine SeqV.step (.int .i64 (U + lg)) (by rfl) (fun W hW => ?_) ?_
                · have q := hw3
                  unfold Oper.wp
                  simp [go_sem, q]
                  try exact hW
                simp only [Act.put, List.setIfInBounds_toArray, List.set_cons_succ, List.set_cons_zero]
                refine SeqV.step (.int .i64 (U + lg)) (by rfl) (fun W hW => ?_) ?_
                · unfold Oper.wp
                  simp [go_sem]
                  try exact hW
                simp only [Act.put, List.setIfInBounds_toArray, List.set_cons_succ, List.set_cons_zero]
                intro W3 hW3
                have HB3 := hidden (HBWA.out.trans (hW3.mono HBWA.out.size))
                clear hW3 HC HSa HBWA HSZ
                go_wp2_with fail
                go_roundw
                case rel => exact ⟨j + 1, U + lg, by go_num, rfl, HJL.out, HB3, HE4⟩
                case measure => have := HJL.out; simp [intOf]; omega
              · have hkd : (kd == (m : Int) + 1) = false := by simp [hk]
                have HE4 : Hid ((stK Ss base m p (j + 1)).e = E3) := by show _ = _; rw [HNO.out hk]; exact hE.out
                clear hk HYES HNO HSa HSZ hbs hE hUb HPC2
                go_wp2_with fail
                go_roundw
                case rel => exact ⟨j + 1, E3, by go_num, rfl, HJL.out, HBWA, HE4⟩
                case measure => have := HJL.out; simp [intOf]; omega
            · have hij : ¬ (j : Int) < (q : Int) := by omega
              have HRO : Hid (stK Ss base m p j = stK Ss base m (p + 1) 0) := stK_row HSS.out (by rw [List.length_map, HQ.out]; omega)
              have HE4 : Hid ((stK Ss base m (p + 1) 0).e = E3) := by show _ = _; rw [← HRO.out]; exact hE.out
              clear HRO hjl hj hE hsec
              go_wp2_with fail
              go_roundw
              case rel => exact ⟨p + 1, E3, by go_num, rfl, HLT.out, hbs, HE4⟩
              case measure => have := HLT.out; simp [intOf]; omega
        · have hilt : ¬ (p : Int) < (n : Int) := by omega
          have HEN : Hid (stK Ss base m p 0 = layK Ss base (m + 1)) := stK_end (by rw [HSN.out]; omega) (by rw [HSN.out]; exact hp)
          have HE4 : Hid ((layK Ss base (m + 1)).e = E2) := by show _ = _; rw [← HEN.out]; exact hE.out
          have HRr := hidden (hR.out.only hbs.out)
          have HRPr := hidden (hRP.out.only hbs.out)
          have HBr := hidden (hb.out.trans (hbs.out.mono hb.out.size))
          have HX2 : Hid (Has ((wr.alloc (.cells #[.int .i64 F, .int .i64 E2] 3)).alloc (.cells #[.slice (some ⟨wr.heap.size, 0, none⟩) 2 2] 39)) wr.heap.size 3 #[.int .i64 F, .int .i64 E2]) := (Has.new _ _ _).alloc _
          have HR1 := hidden ((HRr.out.alloc (.cells #[.int .i64 F, .int .i64 E2] 3)).alloc (.cells #[.slice (some ⟨wr.heap.size, 0, none⟩) 2 2] 39))
          have HRP1 := hidden ((HRPr.out.alloc (.cells #[.int .i64 F, .int .i64 E2] 3)).alloc (.cells #[.slice (some ⟨wr.heap.size, 0, none⟩) 2 2] 39))
          have HB1W : Hid (Below w1.heap.size w1 ((wr.alloc (.cells #[.int .i64 F, .int .i64 E2] 3)).alloc (.cells #[.slice (some ⟨wr.heap.size, 0, none⟩) 2 2] 39))) := (HBr.out.alloc HBr.out.size _).alloc (by have := HBr.out.size; simp; omega) _
          have HNEW : Hid (Has ((wr.alloc (.cells #[.int .i64 F, .int .i64 E2] 3)).alloc (.cells #[.slice (some ⟨wr.heap.size, 0, none⟩) 2 2] 39)) (wr.heap.size + 1) 39 #[.slice (some ⟨wr.heap.size, 0, none⟩) 2 2]) := by
            have := Has.new (wr.alloc (.cells #[.int .i64 F, .int .i64 E2] 3)) 39 #[.slice (some ⟨wr.heap.size, 0, none⟩) 2 2]
            show Has _ _ _ _
            simpa using this
          have HLOW := hidden HRr.out.low
          have HGL : Hid (w1.heap.size ≤ wr.heap.size) := HBr.out.size
          clear HEN hlt hp hE hbs HRr HRPr HBr HPCW
          go_wp2_with (at_builtin; refine wpList_app_ll _ rfl _ _ rfl w1.heap.size _ m (rs.map Rn.val) rfl (by have := HR1.out.row; rwa [HRLN.out] at this) (wr.heap.size + 1) 1 _ rfl HNEW.out rfl (by omega) HB1W.out.size ?_)
          intro va' vc' W10 hrow10 hg10 hfr
          have HR10 : Hid (Rw W10 w1.heap.size (.slice va' (m + 1) vc') (rs ++ [⟨wr.heap.size, [F, E2]⟩])) := HR1.out.app (x := ⟨wr.heap.size, [F, E2]⟩) HX2.out HGL.out (fun z hz => by have := HLOW.out z hz; show z.g ≠ wr.heap.size; omega) (by rw [HRLN.out]; exact hrow10) hg10
          have HRP10 : Hid (Rw W10 w1.heap.size (.slice pa NP pc) pls) := HRP1.out.beside hg10 hAP.out (fun q hq => by
            rcases HR1.out.row.2 with ⟨e, _⟩ | ⟨g, cap, cur, e, _, hh, _⟩
            · rw [e] at hq; cases hq
            · rw [e] at hq
              injection hq with hq
              subst hq
              exact ⟨_, _, hh, by decide⟩)
          have HAP10 : Hid ((Value.slice pa NP pc).ownBlock = none ∨ (Value.slice pa NP pc).ownBlock ≠ (Value.slice va' (m + 1) vc').ownBlock) := by
            show _ ∨ _
            rcases hfr with hfr | hfr
            · rw [hfr]; exact hAP.out
            · rcases hq : (Value.slice pa NP pc).ownBlock with _ | q
              · exact .inl rfl
              · refine .inr fun e => ?_
                have h1 := (hfr.lt q e.symm).1
                have h2 := (HRP1.out.row.lt q hq).2
                simp at h1 h2
                omega
          have HB10 : Hid (Below w1.heap.size w1 W10) := HB1W.out.grown hg10 HB1W.out.size (fun q hq => (HR1.out.row.lt q hq).1)
          have HRS : Hid ((rs ++ [(⟨wr.heap.size, [F, E2]⟩ : Rn)]).map Rn.r = (endsK Ss base).take (m + 1)) := by
            show _ = _
            rw [endsK_take Ss base HM3.out, HE4.out, HF.out, List.map_append, hrs.out]
            rfl
          have hm2 := HM3.out
          clear hrow10 hg10 hfr HX2 HR1 HRP1 HB1W HNEW HLOW HGL hR hRP hAP hb hrs HRLN HF
          go_wp2_with fail
          go_roundw
          case rel => exact ⟨m + 1, E2, _, va', vc', by go_num, rfl, rfl, HM3.out, HR10, HRP10, HAP10, HB10, HRS, HE4⟩
          case measure => simp [intOf]; omega
    · have hi : ¬ (m : Int) + 1 ≤ 3 := by omega
      have hm4 : m = 3 := by omega
      have HFIN : Hid (RowsE w (endsL L base) N (.returned (.slice va m vc)) wr) := by
        have hN := HNN.out
        show RowsE _ _ _ _ _
        rw [HRES.out] at hN ⊢
        subst hm4
        have h3 : (endsK Ss base).length = 3 := by unfold endsK; simp
        have hrs3 := hrs.out
        rw [List.take_of_length_le (by omega)] at hrs3
        obtain rfl : N = 3 := by omega
        exact ⟨va, vc, rfl, rs, hrs3, h3.symm, hR.out.lower HB1.out.size, HB1.out.trans (hb.out.mono HB1.out.size)⟩
      clear hm hm3 hm4 hR hRP hAP hb hrs hE
      go_wp2_with fail
      go_ret
      exact HFIN.out

end Go.Proofs.Ytiocchmlmcoieaa

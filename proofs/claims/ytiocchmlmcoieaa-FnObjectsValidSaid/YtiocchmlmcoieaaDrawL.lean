/-
  spec.l20Objects.
-/
import Derived.Test.YtiocchmlmcoieaaDrL
import Derived.Test.YtiocchmlmcoieaaWantS
import Derived.Test.YtiocchmlmcoieaaLawO5
namespace Go.Proofs.Ytiocchmlmcoieaa
open Go.RowKit

theorem set_snoc (L : List Oj) (y z : Oj) : (L ++ [y]).set L.length z = L ++ [z] := by simp
theorem addr_at (b o j : Nat) : (⟨b, o, none⟩ : Addr).add j = ⟨b, o + j, none⟩ := by unfold Addr.add; split <;> simp_all
theorem dl_grown {w w' : World} (h : Below w.heap.size w w') : w.grownBy w' none := ⟨h.os, h.tape, h.output, h.size, fun i hi _ => h.block i hi⟩
/-- A row of texts is appended to. -/
theorem DL.texts {w W W' : World} {B g : Nat} {P : Int} {v u : Value} {L M : List Oj} {n : Nat} {xs : List Value} (d : DL w W B g P v L M) (hl : g < w.heap.size) (hu : W.ownsRow w.heap.size 9 1 u n xs) (hw : W.grownBy W' u.ownBlock) : DL w W' B g P v L M := by
  obtain ⟨q1, q2⟩ := d.high hl (fun q hq => (hu.lt q hq).1) hw
  exact ⟨q1, q2, d.list.row' hu (by decide) (by decide) (by decide) (by decide) (by decide) hw⟩
/-- Objects without anything. -/
def noOj : List Oj := [⟨[], [], none, 0, none, 0⟩, ⟨[], [], none, 0, none, 0⟩, ⟨[], [], none, 0, none, 0⟩, ⟨[], [], none, 0, none, 0⟩, ⟨[], [], none, 0, none, 0⟩]
theorem noOj_at {i : Nat} {y : Oj} (h : noOj[i]? = some y) : y = ⟨[], [], none, 0, none, 0⟩ := by
  have := List.mem_of_getElem? h
  simpa [noOj] using this
theorem noOj_ol {W : World} {base : Nat} {v : Value} (h : W.ownsRow base 29 2 v 5 (flatO noOj)) : OL W base v noOj noOj :=
  ⟨h, fun i y hi => by
    rw [noOj_at hi]
    exact ⟨⟨⟨by simp [flatS], .inl ⟨rfl, rfl⟩⟩, by simp, by simp, by simp⟩, ⟨by simp [flatM], .inl ⟨rfl, rfl⟩⟩, by simp, by simp, by simp⟩,
   fun i j y z _ hi _ k hk => by rw [noOj_at hi] at hk; simp [Oj.own, Value.ownBlock] at hk⟩
set_option maxRecDepth 100000 in
set_option maxHeartbeats 16000000 in
theorem l20Objects_any (w : World) (B g : Nat) (P n : Int) (h : Rd w B g P) (hP : P ≤ 30000) (hn : 0 ≤ n) (hn' : n ≤ 100) :
    Calls Try.prog 27 #[.pointer (some ⟨g, 0, none⟩), .int .i64 n] w (DrawnL w B g P) := by
  have hgl := h.lt
  obtain ⟨i0, ki, hz0, hz1, hz2⟩ := info_parts Try.info_object
  obtain ⟨j1, kj, hy0, hy1, hy2⟩ := info_parts Try.info_str
  have D0 : Hid (DL w (w.alloc (.cells #[] 29)) B g P (.slice (some ⟨w.heap.size, 0, none⟩) ([] : List Oj).length 0) [] []) :=
    ⟨h.alloc _, only_alloc (World.grownBy.refl w _) _, World.ownsRow_lit (base := w.heap.size) (e := 29) (size := 2) w #[] 0 (Nat.le_refl _) (by unfold maxLen; omega) rfl, by simp, by simp⟩
  go_enter Try.func27, Try.ntmps27
  go_wp2_with fail
  refine (pick_any _ B g P 4 D0.out.rd (by omega) (by omega) (by omega)).mono ?_
  rintro e w1 ⟨x, rfl, x0, x1, hr1, hg1⟩
  have D1 := hidden (D0.out.pick hgl hr1 hg1)
  obtain ⟨j0, rfl⟩ := Int.eq_ofNat_of_zero_le x0
  clear D0 hr1 hg1 h
  go_wp2_with fail
  go_loopw [5, 6] (fun v k wr => ∃ (j : Nat) (va : Option Addr) (vc : Nat) (L : List Oj) (Q : Int), v = .slice va L.length vc ∧ k = .int .i64 j ∧ L.length + j ≤ 3 ∧ Q + 2100 * j ≤ P + 6400 ∧ Hid (DL w wr B g Q (.slice va L.length vc) L L)) (fun _ k _ => (intOf k).toNat)
  case atStart => exact ⟨j0, _, 0, [], P + 1, rfl, rfl, by simp; omega, by omega, D1⟩
  case round =>
    obtain ⟨j, va, vc, L, Q, rfl, rfl, hlj, hQ, D⟩ := hrel
    clear D1 x0 x1
    rcases Nat.eq_zero_or_pos j with rfl | hjp
    · obtain ⟨nL, hnL⟩ : ∃ q, L.length = q := ⟨_, rfl⟩
      have HNL := hidden hnL
      rw [hnL] at D hlj ⊢
      clear hnL
      try rw [show ((0 : Nat) : Int) = (0 : Int) from rfl]
      go_wp2_with fail
      refine (pick_any _ B g Q 2 D.out.rd (by omega) (by omega) (by omega)).mono ?_
      rintro e w3 ⟨x2, rfl, x20, x21, hr3, hg3⟩
      have D3 := hidden (D.out.pick hgl hr3 hg3)
      clear D hr3 hg3
      go_upto_if 64 with fail
      go_cut [] from 9 (fun wx => ∃ (L2 : List Oj) (Q2 : Int), Hid (L2.length = nL) ∧ Q2 ≤ P + 6600 ∧ Hid (DL w wx B g Q2 (.slice va nL vc) L2 L2))
      case first =>
        by_cases hx : x2 = 0
        · have hx' : (x2 == 0) = true := by simp [hx]
          rw [hx']
          clear hx hx'
          have D4 := hidden (D3.out.alloc (.cells #[] 9))
          have hw3 := D3.out.grown.size
          have HG4 : Hid ((w3.alloc (.cells #[] 9)).ownsRow w.heap.size 9 1 (.slice (some ⟨w3.heap.size, 0, none⟩) 0 0) ([] : List ByteArray).length (([] : List ByteArray).map Value.string)) := World.ownsRow_lit (base := w.heap.size) (e := 9) (size := 1) w3 #[] 0 hw3 (by unfold maxLen; omega) rfl
          clear D3
          go_wp2_with fail
          go_loopw [9, 10] (fun gv i wr => ∃ (k : Nat) (G : List ByteArray), i = .int .i64 k ∧ k ≤ nL ∧ Hid (∀ s ∈ G, s.size ≤ 9) ∧ G.length ≤ 20 * k ∧ Hid (wr.ownsRow w.heap.size 9 1 gv G.length (G.map Value.string)) ∧ Hid (DL w wr B g (Q + 1) (.slice va nL vc) L L)) (fun _ i _ => nL - (intOf i).toNat)
          case atStart => exact ⟨0, [], rfl, Nat.zero_le _, hidden (by simp), by simp, HG4, D4⟩
          case round =>
            clear D4 HG4
            obtain ⟨k, G, rfl, hk, hG, hGl, HG, D⟩ := hrel
            by_cases hlt : k < nL
            · have hi : (k : Int) < (nL : Int) := by omega
              obtain ⟨y, hy⟩ : ∃ y, L[k]? = some y := ⟨_, List.getElem?_eq_getElem (by rw [HNL.out]; exact hlt)⟩
              obtain ⟨vb, vc', e1, _, q0, q1⟩ := D.out.list.at_ hy
              replace e1 := (Value.slice.inj e1).1
              subst e1
              have hyo := D.out.list.objs k _ hy
              obtain ⟨ss, ms, a1, c1, a2, c2⟩ := y
              simp only at q0 q1
              have hf1 : ss.length ≤ 8 := hyo.few1
              have hf2 : ms.length ≤ 20 := hyo.few2
              have HN := hidden (namesGiven'_any wr wr.heap.size a1 a2 c1 c2 ss.length ms.length ss ms rfl rfl hyo.secs.sects (syms_of_own hyo.syms) (Nat.le_refl _) (by omega) (by omega) (fun z hz => ((hyo.secs.small z hz).fits').lens) (fun x hx => ((hyo.small x hx).fits).name))
              obtain ⟨S, hS⟩ : ∃ S, namesIf gives (ss.map Sp.s) ms = S := ⟨_, rfl⟩
              have HS9 : Hid (∀ s ∈ S, s.size ≤ 9) := fun s hs => by
                rw [← hS] at hs
                obtain ⟨_, m, hm, _, rfl⟩ := mem_namesIf hs
                exact (hyo.small m hm).name
              have hS20 : S.length ≤ 20 := by rw [← hS]; exact Nat.le_trans (namesIf_less _ _ _) hf2
              rw [hS] at HN
              clear hyo hS hy
              go_wp2_with fail
              refine HN.out.mono ?_
              clear HN
              rintro e w5 ⟨vb2, vo, vc2, rfl, _, _, hvb, hvcs, hb5⟩
              have D5 := hidden (D.out.kept (dl_grown hb5))
              have HG5 := hidden (HG.out.kept (dl_grown hb5) (Classical.em _))
              have HVC := hidden hvcs
              have hw5 := D5.out.grown.size
              clear hvcs hb5 HG D q0 q1
              go_wp2_with (at_builtin; refine wpList_append_own _ rfl _ _ 83 rfl w.heap.size 9 j1 (.string ⟨#[]⟩) 1 16 Try.underlying83 kj hy0 hy1 hy2 rfl (by decide) _ _ _ rfl HG5.out ⟨vb2, vo, none⟩ S.length vc2 (S.map Value.string) rfl (by simp) (fun t u ht => by rw [addr_at]; exact HVC.out t u ht) (by intro u hu; simp at hu; obtain ⟨s, _, rfl⟩ := hu; rfl) (by unfold maxLen; omega) (by omega) hw5 ?_)
              · intro v' w6 hown hgrow _
                have HG6 : Hid (w6.ownsRow w.heap.size 9 1 v' (G ++ S).length ((G ++ S).map Value.string)) := by
                  show World.ownsRow _ _ _ _ _ _ _
                  rw [List.length_append, List.map_append]; exact hown
                have D6 := hidden (D5.out.texts hgl HG5.out hgrow)
                have h9 : Hid (∀ s ∈ G ++ S, s.size ≤ 9) := fun s hs => (List.mem_append.1 hs).elim (hG.out s) (HS9.out s)
                obtain ⟨ga', gc', rfl⟩ := own_val HG6.out
                clear hown hgrow D5 HG5 HVC HS9 hG
                go_wp2
                go_roundw
                case rel => exact ⟨k + 1, G ++ S, by go_num, by omega, h9, by simp; omega, HG6, D6⟩
                case measure => simp [intOf]; omega
            · have hi : ¬ (k : Int) < (nL : Int) := by omega
              obtain ⟨ga, gc, rfl⟩ := own_val HG.out
              obtain ⟨ng, hng⟩ : ∃ q, G.length = q := ⟨_, rfl⟩
              have HNG := hidden hng
              rw [hng] at HG hGl ⊢
              have hng60 : ng ≤ 60 := by omega
              clear hlt hng hGl hk
              go_wp2_with fail
              clear hi
              go_loopw [11] (fun i wr => ∃ (k : Nat) (L2 : List Oj) (Q2 : Int), i = .int .i64 k ∧ k ≤ nL ∧ Hid (L2.length = nL) ∧ Q2 ≤ Q + 1 + 20 * k ∧ Hid (wr.ownsRow w.heap.size 9 1 (.slice ga ng gc) ng (G.map Value.string)) ∧ Hid (DL w wr B g Q2 (.slice va nL vc) L2 L2)) (fun i _ => nL - (intOf i).toNat)
              case atStart => exact ⟨0, L, Q + 1, rfl, Nat.zero_le _, HNL, by omega, HG, D⟩
              case round =>
                clear HG D
                obtain ⟨k, L2, Q2, rfl, hk, HL2, hQ2, HG, D⟩ := hrel
                by_cases hlt : k < nL
                · have hi : (k : Int) < (nL : Int) := by omega
                  obtain ⟨y, hy⟩ : ∃ y, L2[k]? = some y := ⟨_, List.getElem?_eq_getElem (by rw [HL2.out]; exact hlt)⟩
                  obtain ⟨vb, vc', e1, _, _, _⟩ := D.out.list.at_ hy
                  replace e1 := (Value.slice.inj e1).1
                  subst e1
                  obtain ⟨ss, ms, a1, c1, a2, c2⟩ := y
                  have hnm20' : ms.length ≤ 20 := (D.out.list.objs k _ hy).few2
                  obtain ⟨nm, hnm⟩ : ∃ q, ms.length = q := ⟨_, rfl⟩
                  have HNM := hidden hnm
                  have HY := hidden hy
                  rw [hnm] at hnm20'
                  clear hy hnm
                  go_wp2_with fail
                  go_loopw [12] (fun i wr => ∃ (j : Nat) (L3 : List Oj) (ms' : List Sm) (Q3 : Int), i = .int .i64 j ∧ j ≤ nm ∧ Hid (L3.length = nL) ∧ Hid (ms'.length = nm) ∧ Hid (L3[k]? = some ⟨ss, ms', a1, c1, a2, c2⟩) ∧ Q3 ≤ Q2 + j ∧ Hid (wr.ownsRow w.heap.size 9 1 (.slice ga ng gc) ng (G.map Value.string)) ∧ Hid (DL w wr B g Q3 (.slice (some ⟨vb, 0, none⟩) nL vc) L3 L3)) (fun i _ => nm - (intOf i).toNat)
                  case atStart => exact ⟨0, L2, ms, Q2, rfl, Nat.zero_le _, HL2, HNM, HY, by omega, HG, D⟩
                  case round =>
                    clear HL2 HNM HY HG D
                    obtain ⟨j, L3, ms', Q3, rfl, hj3, HL3, HM3, HY, hQ3, HG, D⟩ := hrel
                    have q1 : wr.cell? ⟨vb, k * 2 + 1, none⟩ = some (.slice a2 nm c2) := by
                      obtain ⟨vb', vc', e1, _, _, q1⟩ := D.out.list.at_ HY.out
                      replace e1 := (Value.slice.inj e1).1
                      injection e1 with e1
                      injection e1 with e1
                      rw [← HM3.out, e1]; exact q1
                    by_cases hjl : j < nm
                    · have hji : (j : Int) < (nm : Int) := by omega
                      by_cases hz : 0 < ng
                      · have hgz : (0 : Int) < (ng : Int) := by omega
                        obtain ⟨m, hm⟩ : ∃ m, ms'[j]? = some m := ⟨_, List.getElem?_eq_getElem (by rw [HM3.out]; exact hjl)⟩
                        obtain ⟨b2, e2, _, _, _, p0, _, p2⟩ := (D.out.list.objs k _ HY.out).sym hm
                        have e2' : a2 = some ⟨b2, 0, none⟩ := e2
                        clear e2
                        subst e2'
                        obtain ⟨mn, mb, ml, mv⟩ := m
                        simp only at p0 p2
                        by_cases hl : ml = -1
                        · subst hl
                          have HPK := hidden (pick_any wr B g Q3 (ng : Int) D.out.rd (by omega) (by omega) (by omega))
                          have HMJ := hidden hm
                          clear hm
                          go_wp2_with fail
                          refine HPK.out.mono ?_
                          clear HPK
                          rintro e w5 ⟨x3, rfl, x30, x31, hr5, hg5⟩
                          obtain ⟨t, rfl⟩ := Int.eq_ofNat_of_zero_le x30
                          have D5 := hidden (D.out.pick hgl hr5 hg5)
                          have HG5 := hidden (HG.out.kept hg5 (row_high HG.out hgl))
                          have htn : t < ng := by omega
                          obtain ⟨s, hs⟩ : ∃ s, G[t]? = some s := ⟨_, List.getElem?_eq_getElem (by rw [HNG.out]; exact htn)⟩
                          have hs9 := hG.out s (List.mem_of_getElem? hs)
                          obtain ⟨gb, rfl, gx⟩ : ∃ gb, ga = some ⟨gb, 0, none⟩ ∧ w5.cell? ⟨gb, t, none⟩ = some (.string s) := by
                            rcases HG5.out.2 with ⟨_, h0⟩ | ⟨gb, cap, cur, hv, _⟩
                            · omega
                            · replace hv := (Value.slice.inj hv).1
                              subst hv
                              exact ⟨gb, rfl, by rw [HG5.out.cellAt t (by omega), List.getElem?_map, hs]; rfl⟩
                          clear D HG hr5 hg5 q1 p0 p2 hs x30
                          go_wp2_with fail
                          go_loopw [14, 15] (fun fr i wr => ∃ (q : Nat) (bb : Bool), i = .int .i64 q ∧ fr = .bool bb ∧ q ≤ nm ∧ Hid (wr.ownsRow w.heap.size 9 1 (.slice (some ⟨gb, 0, none⟩) ng gc) ng (G.map Value.string)) ∧ Hid (DL w wr B g (Q3 + 1) (.slice (some ⟨vb, 0, none⟩) nL vc) L3 L3)) (fun _ i _ => nm - (intOf i).toNat)
                          case atStart => exact ⟨0, true, rfl, rfl, Nat.zero_le _, HG5, D5⟩
                          case round =>
                            clear D5 HG5 gx
                            obtain ⟨q, bb, rfl, rfl, hq, HG, D⟩ := hrel
                            have q1 : wr.cell? ⟨vb, k * 2 + 1, none⟩ = some (.slice (some ⟨b2, 0, none⟩) nm c2) := by
                              obtain ⟨vb', vc', e1, _, _, q1⟩ := D.out.list.at_ HY.out
                              replace e1 := (Value.slice.inj e1).1
                              injection e1 with e1
                              injection e1 with e1
                              rw [← HM3.out, e1]; exact q1
                            by_cases hql : q < nm
                            · have hqi : (q : Int) < (nm : Int) := by omega
                              obtain ⟨xm, hxm⟩ : ∃ m, ms'[q]? = some m := ⟨_, List.getElem?_eq_getElem (by rw [HM3.out]; exact hql)⟩
                              obtain ⟨b3, e3, _, _, _, p0, _, _⟩ := (D.out.list.objs k _ HY.out).sym hxm
                              injection e3 with e3
                              injection e3 with e3
                              subst e3
                              obtain ⟨xn, hxn⟩ : ∃ z, xm.name = z := ⟨_, rfl⟩
                              rw [hxn] at p0
                              clear hxm hxn
                              rcases bb with _ | _
                              · go_wp2_with fail
                                go_roundw
                                case rel => exact ⟨q + 1, false, by go_num, rfl, hql, HG, D⟩
                                case measure => simp [intOf]; omega
                              · go_wp2_with fail
                                go_roundw
                                case rel => exact ⟨q + 1, _, by go_num, rfl, hql, HG, D⟩
                                case measure => simp [intOf]; omega
                            · have hqi : ¬ (q : Int) < (nm : Int) := by omega
                              rcases bb with _ | _
                              · go_wp2_with fail
                                go_roundw
                                case rel => exact ⟨j + 1, L3, ms', Q3 + 1, by go_num, hjl, HL3, HM3, HY, by omega, HG, D⟩
                                case measure => simp [intOf]; omega
                              · obtain ⟨b3, e3, _, _, ⟨cs, hh⟩, p0, _, _⟩ := (D.out.list.objs k _ HY.out).sym HMJ.out
                                injection e3 with e3
                                injection e3 with e3
                                subst e3
                                have hsm := (D.out.list.objs k _ HY.out).small _ (List.mem_of_getElem? HMJ.out)
                                have DP := D.out.putL hgl HY.out HMJ.out rfl (m' := ⟨s, mb, -1, mv⟩) (i := 0) (u := .string s) ⟨hs9, hsm.bind0, hsm.bind1, hsm.loc0, hsm.loc1, hsm.value0, hsm.value1⟩ (by decide) rfl
                                have HD := hidden DP
                                have HG6 := hidden (HG.out.kept (only_put' (g := b2) (j * 4) (.string s)) (row_apart HG.out hh (by decide)))
                                have f0 := hh.free (j * 4)
                                have HL4 : Hid ((L3.set k ⟨ss, ms'.set j ⟨s, mb, -1, mv⟩, a1, c1, some ⟨b2, 0, none⟩, c2⟩).length = nL) := by show _ = _; rw [List.length_set]; exact HL3.out
                                have HM4 : Hid ((ms'.set j ⟨s, mb, -1, mv⟩).length = nm) := by show _ = _; rw [List.length_set]; exact HM3.out
                                have HY4 : Hid ((L3.set k ⟨ss, ms'.set j ⟨s, mb, -1, mv⟩, a1, c1, some ⟨b2, 0, none⟩, c2⟩)[k]? = some ⟨ss, ms'.set j ⟨s, mb, -1, mv⟩, a1, c1, some ⟨b2, 0, none⟩, c2⟩) := by
                                  show _ = _
                                  rw [List.getElem?_set, if_pos rfl, if_pos (by rw [HL3.out]; exact hlt)]
                                clear hsm DP hh D HG
                                go_wp2_with fail
                                go_roundw
                                case rel => exact ⟨j + 1, _, _, Q3 + 1, by go_num, hjl, HL4, HM4, HY4, by omega, HG6, HD⟩
                                case measure => simp [intOf]; omega
                        · have hl' : (ml != -1) = true := by simp [hl]
                          clear hl hm
                          go_wp2_with fail
                          go_roundw
                          case rel => exact ⟨j + 1, L3, ms', Q3, by go_num, hjl, HL3, HM3, HY, by omega, HG, D⟩
                          case measure => simp [intOf]; omega
                      · have hgz : ¬ (0 : Int) < (ng : Int) := by omega
                        go_wp2_with fail
                        go_roundw
                        case rel => exact ⟨k + 1, L3, Q3, by go_num, by omega, HL3, by omega, HG, D⟩
                        case measure => simp [intOf]; omega
                    · have hji : ¬ (j : Int) < (nm : Int) := by omega
                      go_wp2_with fail
                      go_roundw
                      case rel => exact ⟨k + 1, L3, Q3, by go_num, by omega, HL3, by omega, HG, D⟩
                      case measure => simp [intOf]; omega
                · have hi : ¬ (k : Int) < (nL : Int) := by omega
                  clear hlt HG
                  go_wp2_with fail
                  go_meet
                  exact ⟨L2, Q2, HL2, by omega, D⟩
        · have hx' : (x2 == 0) = false := by simpa using hx
          clear hx
          go_wp2_with fail
          go_meet
          exact ⟨L, Q + 1, HNL, by omega, D3⟩
      case rest =>
        clear D3 HNL
        obtain ⟨L2, Q2, HL2, hQ2, D⟩ := hcut
        go_wp2_with fail
        refine (odd_any _ B g Q2 n D.out.rd (by omega) hn (by omega)).mono ?_
        rintro e w4 ⟨bb, rfl, hr4, hg4⟩
        have D4 := hidden (D.out.pick hgl hr4 hg4)
        clear D hr4 hg4
        go_upto_if 153 with fail
        go_cut [5] from 154 (fun v wx => ∃ (va : Option Addr) (vc : Nat) (L3 : List Oj) (Q3 : Int), v = .slice va L3.length vc ∧ L3.length ≤ 4 ∧ Q3 ≤ P + 9000 ∧ Hid (DL w wx B g Q3 (.slice va L3.length vc) L3 L3))
        case first =>
          rcases bb with _ | _
          · have hl3 : L2.length ≤ 4 := by have := HL2.out; omega
            have hL2 := HL2.out
            subst hL2
            go_wp2_with fail
            go_meet
            exact ⟨va, vc, L2, Q2 + 1, rfl, hl3, by omega, D4⟩
          have HX := hidden (l20Object_any w4 B g (Q2 + 1) 1 D4.out.rd (by omega) (by omega) (by omega))
          go_wp2_with fail
          refine HX.out.mono ?_
          clear HX
          rintro e w2 ⟨a1, a2, c1, c2, ss, ms', rfl, h1, h2, hS, hM, hm, hr2, hg2⟩
          have hL2 := HL2.out
          subst hL2
          have DD := hidden (D4.out.drawn hgl h1 h2 hS hM hm hr2 hg2)
          obtain ⟨nm, hnm⟩ : ∃ q, ms'.length = q := ⟨_, rfl⟩
          have HML := hidden hnm
          rw [hnm]
          rw [hnm] at h2
          clear hnm hS hM hm hr2 hg2 D4
          have D6 := hidden (DD.out.alloc (.cells #[.slice a1 ss.length c1, .slice a2 nm c2] 29))
          have hnew : Hid (Has (w2.alloc (.cells #[.slice a1 ss.length c1, .slice a2 nm c2] 29)) w2.heap.size 29 #[.slice a1 ss.length c1, .slice a2 nm c2]) := Has.new _ _ _
          have hw5 : w.heap.size ≤ (w2.alloc (.cells #[.slice a1 ss.length c1, .slice a2 nm c2] 29)).heap.size := D6.out.grown.size
          clear DD
          go_wp2_with (at_builtin; refine wpList_append_own _ rfl _ _ 23 rfl w.heap.size 29 i0 (.agg #[.slice none 0 0, .slice none 0 0]) 2 48 Try.underlying23 ki hz0 hz1 hz2 rfl (by decide) _ _ _ rfl D6.out.list.row ⟨w2.heap.size, 0, none⟩ 1 1 [.slice a1 ss.length c1, .slice a2 nm c2] rfl rfl (fun t u ht => by rw [addr_row, hnew.out.cell t]; simpa using ht) (by intro u hu; simp at hu; rcases hu with rfl | rfl <;> rfl) (by unfold maxLen; omega) (by omega) hw5 ?_)
          · intro v' w5 hown hgrow _
            rw [← HML.out] at hown
            have D7 := D6.out.app hgl hown hgrow
            obtain ⟨va', vc', rfl⟩ := D7.list.val
            have HD7 := hidden D7
            clear hown hgrow D6 hnew D7
            go_wp2
            go_meet
            exact ⟨va', vc', L2 ++ [⟨ss, ms', a1, c1, a2, c2⟩], _, by simp, by simp; omega, by omega, HD7⟩
        case rest =>
          obtain ⟨va', vc', L3, Q3, hv, hl3, hQ3, D⟩ := hcut
          clear D4 HL2
          first | subst hv | skip
          go_wp2_with fail
          refine (odd_any _ B g Q3 (2 * n) D.out.rd (by omega) (by omega) (by omega)).mono ?_
          rintro e w4 ⟨bb, rfl, hr4, hg4⟩
          have D5 := hidden (D.out.pick hgl hr4 hg4)
          clear D hr4 hg4
          rcases bb with _ | _
          · go_wp2_with fail
            go_ret
            exact ⟨va', vc', L3, rfl, by omega, D5.out.more (by omega)⟩
          have hmk : ∀ W : World, (Instr.makeSlice 23 (.int .i64 5) (.int .i64 5)).run Try.prog W = .ok (.slice (some ⟨W.heap.size, 0, none⟩) 5 5) (W.alloc (.cells #[.slice none 0 0, .slice none 0 0, .slice none 0 0, .slice none 0 0, .slice none 0 0, .slice none 0 0, .slice none 0 0, .slice none 0 0, .slice none 0 0, .slice none 0 0] 29)) := fun _ => by kernel_rfl
          have HF : Hid (DL w (w4.alloc (.cells #[.slice none 0 0, .slice none 0 0, .slice none 0 0, .slice none 0 0, .slice none 0 0, .slice none 0 0, .slice none 0 0, .slice none 0 0, .slice none 0 0, .slice none 0 0] 29)) B g (P + 10000) (.slice (some ⟨w4.heap.size, 0, none⟩) 5 5) noOj noOj) :=
            ⟨(D5.out.rd.mono (by omega)).alloc _, only_alloc D5.out.grown _, noOj_ol (World.ownsRow_lit w4 _ 5 D5.out.grown.size (by unfold maxLen; omega) rfl)⟩
          clear D5
          go_wp2_with fail
          go_ret
          exact ⟨_, _, noOj, rfl, by decide, HF.out⟩
    · obtain ⟨j, rfl⟩ : ∃ j', j = j' + 1 := ⟨j - 1, by omega⟩
      have HX := hidden (l20Object_any wr B g Q 0 D.out.rd (by omega) (by omega) (by omega))
      go_wp2_with fail
      refine HX.out.mono ?_
      clear HX
      rintro e w2 ⟨a1, a2, c1, c2, ss, ms, rfl, h1, h2, hS, hM, hm, hr2, hg2⟩
      have D2 := D.out.drawn hgl h1 h2 hS hM hm hr2 hg2
      have hw2 := D2.grown.size
      have D3 := hidden (D2.alloc (.cells #[.slice a1 ss.length c1, .slice a2 ms.length c2] 29))
      have HV : Hid (Has (w2.alloc (.cells #[.slice a1 ss.length c1, .slice a2 ms.length c2] 29)) w2.heap.size 29 #[.slice a1 ss.length c1, .slice a2 ms.length c2]) := Has.new _ _ _
      obtain ⟨nm, hnm⟩ : ∃ q, ms.length = q := ⟨_, rfl⟩
      have HNM := hidden hnm
      rw [hnm] at D3 HV h2 ⊢
      clear hnm hS hM hm hr2 hg2 D2 D
      go_wp2_with fail
      go_loopw [8] (fun i wr => ∃ (q : Nat) (ms' : List Sm) (Q2 : Int), i = .int .i64 q ∧ q ≤ nm ∧ Hid (ms'.length = nm) ∧ Q2 ≤ Q + 2000 + q ∧ Hid (DL w wr B g Q2 (.slice va L.length vc) L (L ++ [⟨ss, ms', a1, c1, a2, c2⟩])) ∧ Hid (Has wr w2.heap.size 29 #[.slice a1 ss.length c1, .slice a2 nm c2])) (fun i _ => nm - (intOf i).toNat)
      case atStart => exact ⟨0, ms, Q + 2000, rfl, Nat.zero_le _, HNM, by omega, D3, HV⟩
      case round =>
        clear D3 HV HNM
        obtain ⟨q, ms', Q2, rfl, hq, hml, hQ2, DD, HO⟩ := hrel
        by_cases hql : q < nm
        · have hqi : (q : Int) < (nm : Int) := by omega
          have o1 : wr.cell? ⟨w2.heap.size, 1, none⟩ = some (.slice a2 nm c2) := HO.out.cell 1
          have HPK := hidden (pick_any wr B g Q2 2 DD.out.rd (by omega) (by omega) (by omega))
          go_wp2_with fail
          refine HPK.out.mono ?_
          clear HPK
          rintro e w4 ⟨k2, rfl, k20, k21, hr4, hg4⟩
          have D4 := hidden (DD.out.pick hgl hr4 hg4)
          have HO4 := hidden (HO.out.grown hg4 (by intro e; injection e with e; omega))
          clear DD HO hr4 hg4 o1
          by_cases hk : k2 = 0
          · have hk' : (k2 == 0) = true := by simp [hk]
            clear hk k20 k21
            have o1 : w4.cell? ⟨w2.heap.size, 1, none⟩ = some (.slice a2 nm c2) := HO4.out.cell 1
            obtain ⟨m, hm⟩ : ∃ m, ms'[q]? = some m := ⟨_, List.getElem?_eq_getElem (by rw [hml.out]; exact hql)⟩
            have hyo := D4.out.list.objs L.length ⟨ss, ms', a1, c1, a2, c2⟩ (by simp)
            obtain ⟨b2, e2, _, _, ⟨cs, hh⟩, _, p1, p2⟩ := hyo.sym hm
            have e2' : a2 = some ⟨b2, 0, none⟩ := e2
            clear e2
            subst e2'
            obtain ⟨mn, mb, ml, mv⟩ := m
            simp only at p1 p2
            have hsm := hyo.small _ (List.mem_of_getElem? hm)
            by_cases hl : ml = -1
            · have hl' : (ml != -1) = false := by simp [hl]
              clear hl hyo hh hsm hm
              go_wp2_with fail
              go_roundw
              case rel => exact ⟨q + 1, ms', Q2 + 1, by go_num, hql, hml, by omega, D4, HO4⟩
              case measure => simp [intOf]; omega
            have hl' : (ml != -1) = true := by simp [hl]
            by_cases hb : mb = 1
            · subst hb
              have DP := D4.out.put hgl (k := L.length) (y := ⟨ss, ms', a1, c1, some ⟨b2, 0, none⟩, c2⟩) (m' := ⟨mn, 2, ml, mv⟩) (i := 1) (u := .int .i64 2) (by simp) hm rfl ⟨hsm.name, by show (-1 : Int) ≤ 2; omega, by show (2 : Int) ≤ 3; omega, hsm.loc0, hsm.loc1, hsm.value0, hsm.value1⟩ (by decide) rfl
              rw [set_snoc] at DP
              have HD := hidden DP
              have hne : w2.heap.size ≠ b2 := fun e => by
                have h3 := HO4.out
                rw [e] at h3
                unfold Has at h3 hh
                rw [h3] at hh
                injection hh with hh
                injection hh with _ hh
                exact absurd hh (by decide)
              have HO5 := hidden (HO4.out.away (p := ⟨b2, q * 4 + 1, none⟩) hne (.int .i64 2))
              have f1 := hh.free (q * 4 + 1)
              have hm4 : Hid ((ms'.set q ⟨mn, 2, ml, mv⟩).length = nm) := by show _ = _; rw [List.length_set]; exact hml.out
              clear hl hyo hh hsm hm DP D4 HO4 hne
              go_wp2_with fail
              go_roundw
              case rel => exact ⟨q + 1, _, Q2 + 1, by go_num, hql, hm4, by omega, HD, HO5⟩
              case measure => simp [intOf]; omega
            · have hb' : (mb == 1) = false := by simpa using hb
              clear hl hb hyo hh hsm hm
              go_wp2_with fail
              go_roundw
              case rel => exact ⟨q + 1, ms', Q2 + 1, by go_num, hql, hml, by omega, D4, HO4⟩
              case measure => simp [intOf]; omega
          · have hk' : (k2 == 0) = false := by simpa using hk
            clear hk k20 k21
            have o0 : w4.cell? ⟨w2.heap.size, 0, none⟩ = some (.slice a1 ss.length c1) := HO4.out.cell 0
            have o1 : w4.cell? ⟨w2.heap.size, 1, none⟩ = some (.slice a2 nm c2) := HO4.out.cell 1
            have D6 := hidden (D4.out.alloc (.cells #[.slice a1 ss.length c1, .slice a2 nm c2] 29))
            have hnew : Hid (Has (w4.alloc (.cells #[.slice a1 ss.length c1, .slice a2 nm c2] 29)) w4.heap.size 29 #[.slice a1 ss.length c1, .slice a2 nm c2]) := Has.new _ _ _
            have hw5 : w.heap.size ≤ (w4.alloc (.cells #[.slice a1 ss.length c1, .slice a2 nm c2] 29)).heap.size := D6.out.grown.size
            have HML := hml
            clear D4 HO4
            go_wp2_with (at_builtin; refine wpList_append_own _ rfl _ _ 23 rfl w.heap.size 29 i0 (.agg #[.slice none 0 0, .slice none 0 0]) 2 48 Try.underlying23 ki hz0 hz1 hz2 rfl (by decide) _ _ _ rfl D6.out.list.row ⟨w4.heap.size, 0, none⟩ 1 1 [.slice a1 ss.length c1, .slice a2 nm c2] rfl rfl (fun t u ht => by rw [addr_row, hnew.out.cell t]; simpa using ht) (by intro u hu; simp at hu; rcases hu with rfl | rfl <;> rfl) (by unfold maxLen; omega) (by omega) hw5 ?_)
            · intro v' w5 hown hgrow _
              rw [← HML.out] at hown
              have D7 := D6.out.app hgl hown hgrow
              obtain ⟨va', vc', rfl⟩ := D7.list.val
              have HD7 := hidden D7
              clear hown hgrow D6 hnew D7 o0 o1
              go_wp2
              go_roundw
              case rel => exact ⟨j, va', vc', L ++ [⟨ss, ms', a1, c1, a2, c2⟩], _, by simp, by go_num, by simp; omega, by omega, HD7⟩
              case measure => simp [intOf] <;> omega
        · have hqi : ¬ (q : Int) < (nm : Int) := by omega
          have o0 : wr.cell? ⟨w2.heap.size, 0, none⟩ = some (.slice a1 ss.length c1) := HO.out.cell 0
          have o1 : wr.cell? ⟨w2.heap.size, 1, none⟩ = some (.slice a2 nm c2) := HO.out.cell 1
          have D6 := hidden (DD.out.alloc (.cells #[.slice a1 ss.length c1, .slice a2 nm c2] 29))
          have hnew : Hid (Has (wr.alloc (.cells #[.slice a1 ss.length c1, .slice a2 nm c2] 29)) wr.heap.size 29 #[.slice a1 ss.length c1, .slice a2 nm c2]) := Has.new _ _ _
          have hw5 : w.heap.size ≤ (wr.alloc (.cells #[.slice a1 ss.length c1, .slice a2 nm c2] 29)).heap.size := D6.out.grown.size
          have HML := hml
          clear DD HO
          go_wp2_with (at_builtin; refine wpList_append_own _ rfl _ _ 23 rfl w.heap.size 29 i0 (.agg #[.slice none 0 0, .slice none 0 0]) 2 48 Try.underlying23 ki hz0 hz1 hz2 rfl (by decide) _ _ _ rfl D6.out.list.row ⟨wr.heap.size, 0, none⟩ 1 1 [.slice a1 ss.length c1, .slice a2 nm c2] rfl rfl (fun t u ht => by rw [addr_row, hnew.out.cell t]; simpa using ht) (by intro u hu; simp at hu; rcases hu with rfl | rfl <;> rfl) (by unfold maxLen; omega) (by omega) hw5 ?_)
          · intro v' w5 hown hgrow _
            rw [← HML.out] at hown
            have D7 := D6.out.app hgl hown hgrow
            obtain ⟨va', vc', rfl⟩ := D7.list.val
            have HD7 := hidden D7
            clear hown hgrow D6 hnew D7 o0 o1
            go_wp2
            go_roundw
            case rel => exact ⟨j, va', vc', L ++ [⟨ss, ms', a1, c1, a2, c2⟩], _, by simp, by go_num, by simp; omega, by omega, HD7⟩
            case measure => simp [intOf] <;> omega

end Go.Proofs.Ytiocchmlmcoieaa

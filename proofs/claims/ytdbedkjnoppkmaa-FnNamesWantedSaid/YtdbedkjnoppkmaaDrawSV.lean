/-
  The draw of a symbol and sections.
-/
import Derived.Test.YtdbedkjnoppkmaaSL
import Derived.Test.YtdbedkjnoppkmaaSecsT
import Derived.Laws.ResultCell
namespace Go.Proofs.Ytdbedkjnoppkmaa
open Go.RowKit

theorem results_cell_row3 {P : Program} {fn : Func} {p u : Tmp} {ty : TypeId} (h : fn.results = #[.cell p ty, .tmp u]) (tmps : Array Value) (w : World) (g : Nat) (t : TypeId) (cs : Array Value) (fr : Nat × Nat) (d : TypeDesc)
    (hp : tmps.getD p undef = .pointer (some ⟨g, 0, none⟩)) (hg : w.heap[g]? = some (.cells cs t fr))
    (hu : P.underlying ty = some d) (hd : (match d with | .struct _ | .array _ _ => true | _ => false) = true) (hi : (P.info? ty).map (·.size) = some cs.size) :
    (results fn tmps).run P w = .ok (.tuple #[.agg cs, tmps.getD u undef]) w := by
  rw [results_cell_tmp h, hp]
  simp [asAddr, run_loadVar_row w g t ty cs fr d hg hu hd hi, Result.andThen]
theorem Sx.small.longs {s : Sx} (h : s.small) (hz : 0 ≤ s.size) : 0 ≤ s.long ∧ s.long ≤ 100 ∧ s.bytes.length ≤ 100 := by
  have := h.size1
  have := h.bytes
  unfold Sx.long
  split <;> omega
set_option maxRecDepth 100000 in
set_option maxHeartbeats 2000000 in
theorem drawSymbolValid_any (w : World) (a : Option Addr) (cap : Nat) (l : List Int) (h : Ints w .u8 w.heap.size a l) (hcap : l.length ≤ cap) (hlen : cap ≤ 9223372036854775807) :
    Calls Try.prog 10 #[.slice a l.length cap] w fun e w' => ∃ (m : Sm) (ss : List Sp) (b1 : Option Addr) (d1 : Nat), e = .returned (.tuple #[m.agg, .slice b1 ss.length d1]) ∧ m.small ∧ ss.length ≤ 2 ∧ (∀ y ∈ ss, y.s.small) ∧ Sects w' w'.heap.size b1 ss ∧ Below w.heap.size w w' := by
  obtain ⟨i0, hi, hz0, hz1, hz2⟩ := info_parts Try.info_section
  go_enter Try.func10, Try.ntmps10
  go_wp2_with fail
  refine (l20Open_any (w.alloc (.cells #[.string ⟨#[]⟩, .int .i64 0, .int .i64 0, .int .i64 0] 24)) a cap l ((h.alloc (Nat.le_refl _) _).more (by simp)) hcap hlen).mono ?_
  rintro e w1 ⟨rfl, hr1, hb1⟩
  clear h
  have s0 : (w.alloc (.cells #[.string ⟨#[]⟩, .int .i64 0, .int .i64 0, .int .i64 0] 24)).heap.size = w.heap.size + 1 := by simp
  rw [s0] at hr1 hb1
  rw [s0]
  have hres1 : Has w1 w.heap.size 24 #[.string ⟨#[]⟩, .int .i64 0, .int .i64 0, .int .i64 0] := (Has.new w _ _).below hb1 (by omega)
  have hbw1 : Below w.heap.size w w1 := ((Below.refl _ _).alloc (Nat.le_refl _) _).trans (hb1.mono (by omega))
  have hg1 := hr1.lt
  clear hb1 s0
  go_wp2_with fail
  refine (pick_any _ (w.heap.size + 1) (w.heap.size + 1) 0 3 (hr1.alloc _) (by omega) (by omega) (by omega)).mono ?_
  rintro e w2 ⟨x, rfl, hx0, hx1, hr2, hg2⟩
  obtain ⟨j0, rfl⟩ := Int.eq_ofNat_of_zero_le hx0
  have hown2 : w2.ownsRow w1.heap.size 61 6 (.slice (some ⟨w1.heap.size, 0, none⟩) 0 0) 0 (flatS []) :=
    (World.ownsRow_lit (base := w1.heap.size) (e := 61) (size := 6) w1 #[] 0 (Nat.le_refl _) (by unfold maxLen; omega) rfl).kept hg2 (.inr (by simp [Value.ownBlock]; omega))
  have hSL2 : Hid (SL w2 w1.heap.size (.slice (some ⟨w1.heap.size, 0, none⟩) 0 0) []) := ⟨hown2, by simp, by simp, by simp⟩
  have hgw2 : w1.grownBy w2 (some (w.heap.size + 1)) := only_trans (only_alloc (World.grownBy.refl w1 _) _) hg2
  clear hr1 hg2 hown2
  go_wp2
  go_loopw [5, 6] (fun v k wr => ∃ (j : Nat) (ss : List Sp) (Q : Int), k = .int .i64 j ∧ ss.length + j ≤ 2 ∧ Q + 100 * j ≤ 210 ∧ Rd wr (w.heap.size + 1) (w.heap.size + 1) Q ∧ Hid (SL wr w1.heap.size v ss) ∧ Hid (∀ y ∈ ss, 0 ≤ y.s.size) ∧ w1.grownBy wr (some (w.heap.size + 1)))
    (fun _ k _ => (intOf k).toNat)
  case atStart => exact ⟨j0, [], 0 + 1, rfl, by simp; omega, by omega, hr2, hSL2, hidden (by simp), hgw2⟩
  case round =>
    obtain ⟨j, ss, Q, rfl, hlj, hQ, hr, hSL, hsz, hgw⟩ := hrel
    clear hr2 hSL2 hgw2
    have hws := hgw.size
    rcases Nat.eq_zero_or_pos j with rfl | hjp
    · obtain ⟨b1, d1, rfl⟩ := hSL.out.val
      have HX := hidden (hSL.out.rowX hg1)
      have hlong : ∀ y ∈ ss, 0 ≤ y.s.long ∧ y.s.long ≤ 100 ∧ y.s.bytes.length ≤ 100 := fun y hy => (hSL.out.small y hy).longs (hsz.out y hy)
      have HD := hidden (l20Symbol_any wr (w.heap.size + 1) (w.heap.size + 1) Q 2 hr (by omega) (by omega) (by omega) b1 d1 ss.length ss rfl (by omega) HX.out hlong)
      obtain ⟨ns, hns⟩ : ∃ n, ss.length = n := ⟨_, rfl⟩
      have HNS := hidden hns
      rw [hns] at HD ⊢
      clear hlong hns HX hr
      go_wp2_with fail
      refine HD.out.mono ?_
      clear HD
      rintro e w5 ⟨m, he, hm, hr5, hg5⟩
      have hgw5 := only_trans hgw hg5
      have hres5 : Has w5 w.heap.size 24 #[.string ⟨#[]⟩, .int .i64 0, .int .i64 0, .int .i64 0] := hres1.grown hgw5 (by simp)
      have hSL5 := hidden (hSL.out.low hg1 hg5)
      unfold Sm.agg at he
      subst he
      have y0 : w5.cell? ⟨w.heap.size, 0, none⟩ = some (.string ⟨#[]⟩) := hres5.cell 0
      have y1 : w5.cell? ⟨w.heap.size, 1, none⟩ = some (.int .i64 0) := hres5.cell 1
      have y2 : w5.cell? ⟨w.heap.size, 2, none⟩ = some (.int .i64 0) := hres5.cell 2
      have y3 : w5.cell? ⟨w.heap.size, 3, none⟩ = some (.int .i64 0) := hres5.cell 3
      have f0 := hres5.free 0
      have f1 := hres5.free 1
      have f2 := hres5.free 2
      have f3 := hres5.free 3
      have HRES := hidden hres5
      have hbw5 : Below w.heap.size w w5 := hbw1.grown hgw5 hbw1.size (by intro q hq; injection hq with hq; omega)
      clear hSL hgw hg5 hr5 hres5 hgw5
      go_wp2_with fail
      have HF : Has ((((w5.setCell ⟨w.heap.size, 0, none⟩ (.string m.name)).setCell ⟨w.heap.size, 1, none⟩ (.int .i64 m.bind)).setCell ⟨w.heap.size, 2, none⟩ (.int .i64 m.loc)).setCell ⟨w.heap.size, 3, none⟩ (.int .i64 m.value)) w.heap.size 24 #[.string m.name, .int .i64 m.bind, .int .i64 m.loc, .int .i64 m.value] := (((HRES.out.put 0 _).put 1 _).put 2 _).put 3 _
      have HG : w5.grownBy ((((w5.setCell ⟨w.heap.size, 0, none⟩ (.string m.name)).setCell ⟨w.heap.size, 1, none⟩ (.int .i64 m.bind)).setCell ⟨w.heap.size, 2, none⟩ (.int .i64 m.loc)).setCell ⟨w.heap.size, 3, none⟩ (.int .i64 m.value)) (some w.heap.size) := (only_trans (only_trans (only_trans (only_put' (g := w.heap.size) 0 _) (only_put' (g := w.heap.size) 1 _)) (only_put' (g := w.heap.size) 2 _)) (only_put' (g := w.heap.size) 3 _))
      refine bodyPost_ret (results_cell_row3 rfl _ _ w.heap.size 24 #[.string m.name, .int .i64 m.bind, .int .i64 m.loc, .int .i64 m.value] (0, 0) _ rfl HF Try.underlying24 rfl (by kernel_rfl)) rfl ?_
      obtain ⟨WF, hWF⟩ : ∃ q, ((((w5.setCell ⟨w.heap.size, 0, none⟩ (.string m.name)).setCell ⟨w.heap.size, 1, none⟩ (.int .i64 m.bind)).setCell ⟨w.heap.size, 2, none⟩ (.int .i64 m.loc)).setCell ⟨w.heap.size, 3, none⟩ (.int .i64 m.value)) = q := ⟨_, rfl⟩
      rw [hWF] at HF HG
      rw [hWF]
      clear hWF
      have hS := hSL5.out.low (g := w.heap.size) (by omega) HG
      have hn := HNS.out
      subst hn
      exact ⟨m, ss, b1, d1, rfl, hm, by omega, hS.small, hS.sects, hbw5.grown HG hbw5.size (by intro q hq; injection hq with hq; omega)⟩
    · obtain ⟨j, rfl⟩ : ∃ j', j = j' + 1 := ⟨j - 1, by omega⟩
      go_wp2_with fail
      refine (l20Section_any _ (w.heap.size + 1) (w.heap.size + 1) Q 0 0 hr (by omega) (by omega) (by omega) (by omega) (by omega)).mono ?_
      rintro e w2 ⟨s, a1, c1, a2, c2, he, hs, o1, o2, hr2, hg2, hz⟩
      have hSLb := hSL.out.low hg1 hg2
      have hgw2 := only_trans hgw hg2
      have hSLc := hSLb.alloc (.cells #[.string s.name, .int .i64 s.kind, .int .i64 s.align, .slice a1 s.bytes.length c1, .int .i64 s.size, .slice a2 s.fixs.length c2] 61)
      have p1 := (row_lower o1 hws).alloc (.cells #[.string s.name, .int .i64 s.kind, .int .i64 s.align, .slice a1 s.bytes.length c1, .int .i64 s.size, .slice a2 s.fixs.length c2] 61)
      have p2 := (row_lower o2 hws).alloc (.cells #[.string s.name, .int .i64 s.kind, .int .i64 s.align, .slice a1 s.bytes.length c1, .int .i64 s.size, .slice a2 s.fixs.length c2] 61)
      have hnb : Hid (∀ q, _ = some q → w1.heap.size ≤ q) := fun q hq => (hSLc.row.lt q hq).1
      have HSL := hidden hSLc
      have HP1 := hidden p1
      have HP2 := hidden p2
      have s2 := hgw2.size
      have hz' := hz rfl
      have hnew : Has (w2.alloc (.cells #[.string s.name, .int .i64 s.kind, .int .i64 s.align, .slice a1 s.bytes.length c1, .int .i64 s.size, .slice a2 s.fixs.length c2] 61)) w2.heap.size 61 #[.string s.name, .int .i64 s.kind, .int .i64 s.align, .slice a1 s.bytes.length c1, .int .i64 s.size, .slice a2 s.fixs.length c2] := Has.new _ _ _
      have HNEW := hidden hnew
      unfold Sx.agg at he
      subst he
      clear hr hSL hgw hg2 hSLb hSLc p1 p2 o1 o2 hz hnew
      go_wp2_with (at_builtin; refine wpList_append_own _ rfl _ _ 25 rfl w1.heap.size 61 i0 (.agg #[.string ⟨#[]⟩, .int .i64 0, .int .i64 0, .slice none 0 0, .int .i64 0, .slice none 0 0]) 6 88 Try.underlying25 hi hz0 hz1 hz2 rfl (by decide) _ _ _ rfl HSL.out.row ⟨w2.heap.size, 0, none⟩ 1 1 [.string s.name, .int .i64 s.kind, .int .i64 s.align, .slice a1 s.bytes.length c1, .int .i64 s.size, .slice a2 s.fixs.length c2] rfl rfl ?c1 ?c2 ?c3 ?c4 ?c5 ?_)
      case c1 =>
        intro t u ht
        have e : (⟨w2.heap.size, 0, none⟩ : Addr).add t = ⟨w2.heap.size, t, none⟩ := addr_row _ _
        rw [e, HNEW.out.cell t]
        simpa using ht
      case c2 => intro u hu; simp at hu; rcases hu with rfl | rfl | rfl | rfl | rfl | rfl <;> rfl
      case c3 => unfold maxLen; omega
      case c4 => omega
      case c5 => simp; omega
      · intro v' w4 hown4 hgrow _
        have hr5 := (hr2.alloc _).grown hgrow (fun q hq => ⟨by have := hnb.out q hq; omega, by have := hnb.out q hq; omega⟩)
        have hgw5 := only_own (only_alloc hgw2 _) hgrow (fun q hq => hnb.out q hq)
        have hSL5 : Hid (SL w4 w1.heap.size v' (ss ++ [⟨s, a1, c1, a2, c2⟩])) := HSL.out.app (y := ⟨s, a1, c1, a2, c2⟩) hs HP1.out HP2.out hown4 hgrow
        have hsz5 : Hid (∀ y ∈ ss ++ [(⟨s, a1, c1, a2, c2⟩ : Sp)], 0 ≤ y.s.size) := fun y hy => by
          rcases List.mem_append.1 hy with h | h
          · exact hsz.out y h
          · simp only [List.mem_singleton] at h; rw [h]; exact hz'
        clear hown4 hgrow HSL HP1 HP2 hnb hr2 hgw2 HNEW hsz
        go_wp2
        go_roundw
        case rel => exact ⟨j, ss ++ [⟨s, a1, c1, a2, c2⟩], _, by go_num, by simp; omega, by omega, hr5, hSL5, hsz5, hgw5⟩
        case measure => simp [intOf]

end Go.Proofs.Ytdbedkjnoppkmaa

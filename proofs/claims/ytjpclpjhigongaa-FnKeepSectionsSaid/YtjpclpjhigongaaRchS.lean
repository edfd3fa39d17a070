/-
  spec.ReachSections.
-/
import Derived.Test.YtjpclpjhigongaaRchL
import Derived.Test.YtjpclpjhigongaaObjV
import Derived.BigQuiet
import Derived.Deep.QuietTactic
namespace Go.Proofs.Ytjpclpjhigongaa
open Go.RowKit

theorem low_of {W W' : World} {g : Nat} (h : W.grownBy W' (some g)) (hg : g ≤ W.heap.size) : Below g W W' := Below.only h hg (Nat.le_refl _)
theorem drop_next {α : Type} {l : List α} {k : Nat} {x : α} (h : l[k]? = some x) : l.drop k = x :: l.drop (k + 1) := by
  have hk := (List.getElem?_eq_some_iff.1 h).1
  rw [List.drop_eq_getElem_cons hk]
  rw [List.getElem?_eq_getElem hk] at h
  injection h with h
  rw [h]
/-- What is left to mark of a section. -/
def secR (b : Bool) (s : List Bool) (l : List Int) : List Bool := if b then markL s l else s
theorem secR_start {s : List Bool} {k : Nat} {b : Bool} (h : s[k]? = some b) (l : List Int) : secM s k l = secR b s l := by
  unfold secM secR
  rw [List.getD_eq_getElem?_getD, h]; rfl
theorem secR_end (b : Bool) (s : List Bool) : secR b s [] = s := by cases b <;> rfl
theorem mark_stays {s : List Bool} {k : Nat} (w : Int) (h : s[k]? = some true) : (mark s w)[k]? = some true := (mark_le s w).2 k h
set_option maxRecDepth 100000 in
set_option maxHeartbeats 8000000 in
theorem reachSections'_any (w : World) (B : Nat) (a1 a2 : Option Addr) (c1 c2 n m : Nat) (l : List Sp) (ms : List Sm) (hn : n = l.length) (hm : m = ms.length) (h1 : Sects w B a1 l) (h2 : Syms w B a2 ms) (hB : B ≤ w.heap.size) (hlen : n ≤ 9223372036854775807) (hlem : m ≤ 9223372036854775807) (hl : ∀ y ∈ l, y.s.lens) (hs : ∀ x ∈ ms, x.name.size ≤ maxLen)
    (K : List ByteArray) (ka : Option Addr) (nk kc : Nat) (hkv : Vals w B ka (K.map Value.string)) (hkn : K.length = nk) (hkm : nk ≤ 9223372036854775807) (N : Nat) (hN : (reachA K (l.map Sp.s) ms).length = N) :
    Calls Try.prog 22 #[.agg #[.slice a1 n c1, .slice a2 m c2], .slice ka nk kc] w (AnsI w (reachA K (l.map Sp.s) ms) N) := by
  have hA1 : Has (w.alloc (.cells #[.slice a1 n c1, .slice a2 m c2] 26)) w.heap.size 26 #[.slice a1 n c1, .slice a2 m c2] := Has.new _ _ _
  have hB1 : Below w.heap.size w (w.alloc (.cells #[.slice a1 n c1, .slice a2 m c2] 26)) := (Below.refl _ _).alloc (Nat.le_refl _) _
  have hs1 : (w.alloc (.cells #[.slice a1 n c1, .slice a2 m c2] 26)).heap.size = w.heap.size + 1 := by simp
  obtain ⟨W1, hW1⟩ : ∃ q, (w.alloc (.cells #[.slice a1 n c1, .slice a2 m c2] 26)) = q := ⟨_, rfl⟩
  rw [hW1] at hA1 hB1 hs1
  have hE2 : (W1.alloc (.cells #[] 3)).ownsRow w.heap.size 3 1 (.slice (some ⟨W1.heap.size, 0, none⟩) 0 0) 0 [] := empty_row W1 w.heap.size 3 1 hB1.size
  have hA2 := hA1.alloc (.cells #[] 3)
  have hB2 := hB1.alloc hB1.size (.cells #[] 3)
  obtain ⟨W2, hW2⟩ : ∃ q, W1.alloc (.cells #[] 3) = q := ⟨_, rfl⟩
  obtain ⟨eb, heb⟩ : ∃ q, W1.heap.size = q := ⟨_, rfl⟩
  rw [hW2] at hE2 hA2 hB2
  rw [heb] at hE2
  have x0 : W2.cell? ⟨w.heap.size, 0, none⟩ = some (.slice a1 n c1) := hA2.cell 0
  have x1 : W2.cell? ⟨w.heap.size, 1, none⟩ = some (.slice a2 m c2) := hA2.cell 1
  have HN := hidden hn
  have HM := hidden hm
  have HKV := hidden (hkv.more hB)
  have HKN := hidden hkn
  have H1 := hidden (h1.more hB)
  have H2 := hidden (h2.more hB)
  have HOV := hidden (objectValid'_any W2 w.heap.size a1 a2 c1 c2 n m l ms hn hm ((h1.more hB).below hB2) ((h2.more hB).below hB2) hB2.size hlen hlem hl hs)
  obtain ⟨ok, hok⟩ : ∃ q, objOk (l.map Sp.s) ms = q := ⟨_, rfl⟩
  rw [hok] at HOV
  have HOK := hidden hok
  have HW1 := hidden hW1
  have HW2 := hidden hW2
  have HEB := hidden heb
  have HE2 := hidden hE2
  have HA2 := hidden hA2
  have HB2 := hidden hB2
  have HNN := hidden hN
  clear h1 h2 hl hs hB hn hm hok hkv hkn hN hA1 hB1 hs1 hW1 hW2 heb hE2 hA2 hB2
  go_enter Try.func22, Try.ntmps22
  go_upto_region 1 with fail
  rw [HW1.out]
  clear HW1
  go_upto_region 2 with fail
  rw [HW2.out, HEB.out]
  clear HW2 HEB
  go_wp2_with fail
  refine HOV.out.mono ?_
  clear HOV x0 x1
  rintro e wc ⟨rfl, hb3⟩
  have HA := hidden (HA2.out.below hb3 HA2.out.lt)
  have HBC := hidden (HB2.out.trans (hb3.mono HB2.out.size))
  have HE := hidden (HE2.out.kept (grown_only hb3) (Classical.em _))
  clear HA2 HB2 HE2 hb3
  cases ok with
  | false =>
    have HAN : Hid (reachA K (l.map Sp.s) ms = []) := by
      show _ = _
      unfold reachA
      rw [HOK.out]; rfl
    have HN0 : Hid (N = 0) := by show _ = _; rw [← HNN.out, HAN.out]; rfl
    go_wp2_with fail
    go_ret
    rw [HAN.out, HN0.out]
    exact ⟨_, _, rfl, rfl, HE.out, HBC.out⟩
  | true =>
    have hpa := objOk_parts HOK.out
    have hm12 : m ≤ 12 := by rw [HM.out]; exact hpa.2.1
    have hn8 : n ≤ 8 := by rw [HN.out]; have := hpa.1; rwa [List.length_map] at this
    have HFT : Hid (∀ y ∈ l, y.s.fixs.length ≤ 6 ∧ ∀ f ∈ y.s.fixs, 0 ≤ f.to ∧ f.to < ms.length) := fun y hy => (hpa.2.2 y.s (List.mem_map_of_mem hy)).2
    have HLI : Hid (∀ y ∈ ms, 0 ≤ y.loc → y.loc.toNat < n) := fun y hy h0 => by
      have := loc_in HOK.out hy h0
      rwa [List.length_map, ← HN.out] at this
    have HAN : Hid (reachA K (l.map Sp.s) ms = numsM 0 (reachB K (l.map Sp.s) ms)) := by
      show _ = _
      unfold reachA
      rw [if_pos HOK.out]
    obtain ⟨adj, hadj⟩ : ∃ q, adjO (l.map Sp.s) ms = q := ⟨_, rfl⟩
    have HADJ : Hid (∀ (k : Nat) (y : Sp), l[k]? = some y → adj[k]? = some (y.s.fixs.map fun f => locAt ms f.to)) := fun k y hy => by
      rw [← hadj]
      unfold adjO
      rw [List.getElem?_map, List.getElem?_map, hy]; rfl
    have hadl : adj.length = n := by rw [← hadj]; unfold adjO; rw [List.length_map, List.length_map]; exact HN.out.symm
    have HADL := hidden hadl
    have HRB : Hid (reachB K (l.map Sp.s) ms = manyM adj (startM K (List.replicate n false) ms) n) := by
      show _ = _
      unfold reachB reachM
      rw [hadj, startM_length, List.length_replicate, List.length_map, ← HN.out]
    have hmk := fun W => run_make_row' (P := Try.prog) 68 4 (.bool false) 1 Try.underlying68 Try.info_truth rfl .i64 .i64 n (by omega) (by omega) W
    have hS3 : Has (wc.alloc (.cells (madeCells #[.bool false] n) 4)) wc.heap.size 4 (madeCells #[.bool false] n) := Has.new _ _ _
    have hA3 := HA.out.alloc (.cells (madeCells #[.bool false] n) 4)
    have hB3 := HBC.out.alloc HBC.out.size (.cells (madeCells #[.bool false] n) 4)
    have hE3 := HE.out.kept (grown_only ((Below.refl _ _).alloc (Nat.le_refl _) (.cells (madeCells #[.bool false] n) 4))) (Classical.em _)
    have hwb := HA.out.lt
    have hxl : ∀ q, Value.ownBlock (.slice (some ⟨eb, 0, none⟩) 0 0) = some q → q < wc.heap.size := fun q hq => (HE.out.lt q hq).2
    have hel : eb < wc.heap.size := hxl eb rfl
    have x0 : wc.cell? ⟨w.heap.size, 0, none⟩ = some (.slice a1 n c1) := HA.out.cell 0
    obtain ⟨W3, hW3⟩ : ∃ q, (wc.alloc (.cells (madeCells #[.bool false] n) 4)) = q := ⟨_, rfl⟩
    obtain ⟨sb, hsb⟩ : ∃ q, wc.heap.size = q := ⟨_, rfl⟩
    rw [hW3, hsb, cellsB_made] at hS3
    rw [hW3] at hA3 hB3 hE3
    rw [hsb] at hwb hel
    have hw3 : sb ≤ W3.heap.size := Nat.le_of_lt hS3.lt
    have HA3 := hidden hA3
    have HB3 := hidden hB3
    have HE3 := hidden hE3
    have HS3 := hidden hS3
    have HW3 := hidden hW3
    have HSB := hidden hsb
    have HLOW : Hid (∀ W, W3.grownBy W (some sb) → Below sb W3 W) := fun W h => low_of h hw3
    have H13 : Hid (∀ W, W3.grownBy W (some sb) → Sects W sb a1 l) := fun W h => ((H1.out.below HB3.out).more (Nat.le_of_lt hwb)).below (low_of h hw3)
    have H23 : Hid (∀ W, W3.grownBy W (some sb) → Syms W sb a2 ms) := fun W h => ((H2.out.below HB3.out).more (Nat.le_of_lt hwb)).below (low_of h hw3)
    have HK3 : Hid (∀ W, W3.grownBy W (some sb) → Vals W sb ka (K.map Value.string)) := fun W h => ((HKV.out.below HB3.out).more (Nat.le_of_lt hwb)).below (low_of h hw3)
    have HX : Hid (∀ W, W3.grownBy W (some sb) → W.cell? ⟨w.heap.size, 0, none⟩ = some (.slice a1 n c1) ∧ W.cell? ⟨w.heap.size, 1, none⟩ = some (.slice a2 m c2)) := fun W h => by
      have := HA3.out.grown h (by intro e; injection e with e; omega)
      exact ⟨this.cell 0, this.cell 1⟩
    have HEK : Hid (∀ W, W3.grownBy W (some sb) → W.ownsRow w.heap.size 3 1 (.slice (some ⟨eb, 0, none⟩) 0 0) 0 []) := fun W h => World.ownsRow.kept HE3.out h (row_apart HE3.out HS3.out (by decide))
    have HBW : Hid (∀ W, W3.grownBy W (some sb) → Below w.heap.size w W) := fun W h => HB3.out.grown h HB3.out.size (by intro q hq; injection hq with hq; omega)
    clear hpa HA HBC HE H1 H2 HKV HA3 hadj hadl hxl hS3 hA3 hB3 hE3 hW3 hsb
    go_upto_region 5 with fail
    rw [HW3.out, HSB.out]
    clear HW3 HSB hmk x0
    go_wp2_with fail
    go_loopw [7] (fun i wr => ∃ (k : Nat) (s : List Bool), i = .int .i64 k ∧ k ≤ m ∧ Hid (startM K (List.replicate n false) (ms.take k) = s) ∧ Hid (s.length = n) ∧ Hid (Has wr sb 4 (cellsB s)) ∧ Hid (W3.grownBy wr (some sb))) (fun i _ => m - (intOf i).toNat)
    case atStart => exact ⟨0, _, rfl, Nat.zero_le _, (by show _ = _; rfl), (by show _ = _; exact List.length_replicate), HS3, hidden (World.grownBy.refl W3 _)⟩
    case round =>
      obtain ⟨k, s, rfl, hk, hst, hsl, hhs, hgr⟩ := hrel
      clear HS3
      obtain ⟨x0, x1⟩ := HX.out wr hgr.out
      by_cases hlt : k < m
      · have hilt : (k : Int) < (m : Int) := by omega
        have hkl : k < ms.length := by rw [← HM.out]; exact hlt
        obtain ⟨y, hy⟩ : ∃ y, ms[k]? = some y := ⟨_, List.getElem?_eq_getElem hkl⟩
        have HLO := hidden (HLI.out y (List.mem_of_getElem? hy))
        have HNX : Hid (startM K (List.replicate n false) (ms.take (k + 1)) = symM K y s) := by show _ = _; rw [startM_next hy, hst.out]
        obtain ⟨b, off, rfl, hbB, -, -, -, -⟩ := (H23.out wr hgr.out).at_ hkl
        have HSK : Hid (∀ W, W3.grownBy W (some sb) → W.cell? ⟨b, off + k * 4, none⟩ = some (.string y.name) ∧ W.cell? ⟨b, off + k * 4 + 1, none⟩ = some (.int .i64 y.bind) ∧ W.cell? ⟨b, off + k * 4 + 2, none⟩ = some (.int .i64 y.loc)) := fun W hW => by
          obtain ⟨b', o', e', _, hc⟩ := (H23.out W hW) (by omega)
          injection e' with e'; injection e' with e1 e2; subst e1; subst e2
          obtain ⟨q0, q1, q2, _⟩ := hc k _ hy
          exact ⟨q0, q1, q2⟩
        have HS0 : Hid (symM (K.take 0) y s = s) := by show _ = _; rw [List.take_zero, symM_none]
        clear hlt hkl hy hst hbB
        go_wp2_with fail
        clear x0 x1
        go_loopw [8] (fun i ws => ∃ (j : Nat) (s' : List Bool), i = .int .i64 j ∧ j ≤ nk ∧ Hid (symM (K.take j) y s = s') ∧ Hid (Has ws sb 4 (cellsB s')) ∧ Hid (W3.grownBy ws (some sb))) (fun i _ => nk - (intOf i).toNat)
        case atStart => exact ⟨0, s, rfl, Nat.zero_le _, HS0, hhs, hgr⟩
        case round =>
          obtain ⟨j, s', rfl, hj, hs', hhs', hgr'⟩ := hrel
          clear HS0
          by_cases hltj : j < nk
          · have hiltj : (j : Int) < (nk : Int) := by omega
            obtain ⟨x, hx⟩ : ∃ x, K[j]? = some x := ⟨_, List.getElem?_eq_getElem (by rw [HKN.out]; exact hltj)⟩
            obtain ⟨kb, ko, rfl, _, hkc⟩ := (HK3.out wr hgr'.out) (by rw [List.length_map, HKN.out]; omega)
            have hkc := hkc j _ (by rw [List.getElem?_map, hx]; rfl)
            obtain ⟨-, z1⟩ := HX.out wr hgr'.out
            obtain ⟨p0, p1, p2⟩ := HSK.out wr hgr'.out
            have hsl' : s'.length = n := by rw [← hs'.out, symM_length]; exact hsl.out
            have HG : Hid (∀ q, W3.grownBy (wr.drewN q) (some sb)) := fun q => only_drewN hgr'.out q
            have e0 : ∀ q, (wr.drewN q).cell? ⟨w.heap.size, 1, none⟩ = some (.slice (some ⟨b, off, none⟩) m c2) := fun _ => z1
            have e1 : ∀ q, (wr.drewN q).cell? ⟨b, off + k * 4, none⟩ = some (.string y.name) := fun _ => p0
            have e2 : ∀ q, (wr.drewN q).cell? ⟨b, off + k * 4 + 1, none⟩ = some (.int .i64 y.bind) := fun _ => p1
            have e3 : ∀ q, (wr.drewN q).cell? ⟨b, off + k * 4 + 2, none⟩ = some (.int .i64 y.loc) := fun _ => p2
            have e4 : ∀ q, (wr.drewN q).cell? ⟨kb, ko + j, none⟩ = some (.string x) := fun _ => hkc
            have HTK : Hid (K.take (j + 1) = K.take j ++ [x]) := take_next hx
            have HH : Hid (∀ q, Has (wr.drewN q) sb 4 (cellsB s')) := fun q => hhs'.out.drewN q
            clear hltj hkc hx z1 p0 p1 p2
            by_cases hxn : x = y.name
            · have hd : (y.name.toList == x.toList) = true := by rw [hxn]; simp
              by_cases hbd : y.bind = 0
              · have hd2 : (y.bind == 0) = true := by rw [hbd]; rfl
                have hd3 : (y.bind != 0) = false := by rw [hbd]; rfl
                have HS1 : Hid (symM (K.take (j + 1)) y s = s') := by show _ = _; rw [HTK.out, symM_no (.inr hbd)]; exact hs'.out
                clear HTK hs' hhs' hgr' hxn hbd hsl'
                go_wp2_with fail
                go_quiet (fail)
                go_wp2_with fail
                go_roundw
                case rel => exact ⟨j + 1, s', by go_num, by omega, HS1, HH.out _, HG.out _⟩
                case measure => simp [intOf]; omega
              · have hd2 : (y.bind == 0) = false := by simp [hbd]
                have hd3 : (y.bind != 0) = true := by simp [hbd]
                have HS1 : Hid (symM (K.take (j + 1)) y s = mark s' y.loc) := by show _ = _; rw [HTK.out, symM_yes hxn hbd, hs'.out]
                by_cases hlo : 0 ≤ y.loc
                · obtain ⟨p, hp⟩ := Int.eq_ofNat_of_zero_le hlo
                  have hpn : p < n := by have := HLO.out hlo; omega
                  have hpi : (p : Int) < (n : Int) := by omega
                  have hp0 : (0 : Int) ≤ (p : Int) := by omega
                  obtain ⟨bv, hbv⟩ : ∃ q, s'[p]? = some q := ⟨_, List.getElem?_eq_getElem (by rw [hsl']; exact hpn)⟩
                  have e5 : ∀ q, (wr.drewN q).cell? ⟨sb, p, none⟩ = some (.bool bv) := fun q => ((HH.out q).cell p).trans (cellsB_at hbv)
                  have e6 : ∀ q, (wr.drewN q).frozen? ⟨sb, p, none⟩ = false := fun q => (HH.out q).free p
                  have HH2 : Hid (∀ q, Has ((wr.drewN q).setCell ⟨sb, p, none⟩ (.bool true)) sb 4 (cellsB (mark s' (p : Int)))) := fun q => (HH.out q).mark p
                  have HG2 : Hid (∀ q, W3.grownBy ((wr.drewN q).setCell ⟨sb, p, none⟩ (.bool true)) (some sb)) := fun q => only_trans (HG.out q) (only_put' p _)
                  rw [hp] at e3 HS1
                  clear HTK hs' hhs' hgr' hxn hbd hsl' hlo hbv HH HG hpn
                  go_wp2_with fail
                  go_quiet (fail)
                  go_wp2_with fail
                  go_roundw
                  case rel => exact ⟨j + 1, _, by go_num, by omega, HS1, HH2.out _, HG2.out _⟩
                  case measure => simp [intOf]; omega
                · rw [mark_neg hlo] at HS1
                  clear HTK hs' hhs' hgr' hxn hbd hsl'
                  go_wp2_with fail
                  go_quiet (fail)
                  go_wp2_with fail
                  go_roundw
                  case rel => exact ⟨j + 1, s', by go_num, by omega, HS1, HH.out _, HG.out _⟩
                  case measure => simp [intOf]; omega
            · have hd : (y.name.toList == x.toList) = false := str_ne (fun e => hxn e.symm)
              have HS1 : Hid (symM (K.take (j + 1)) y s = s') := by show _ = _; rw [HTK.out, symM_no (.inl hxn)]; exact hs'.out
              clear HTK hs' hhs' hgr' hxn hsl'
              go_wp2_with fail
              go_quiet (fail)
              go_wp2_with fail
              go_roundw
              case rel => exact ⟨j + 1, s', by go_num, by omega, HS1, HH.out _, HG.out _⟩
              case measure => simp [intOf]; omega
          · have hiltj : ¬ (j : Int) < (nk : Int) := by omega
            have HS1 : Hid (startM K (List.replicate n false) (ms.take (k + 1)) = s') := by
              show _ = _
              rw [HNX.out, ← hs'.out, List.take_of_length_le (by rw [HKN.out]; omega)]
            have HL1 : Hid (s'.length = n) := by show _ = _; rw [← hs'.out, symM_length]; exact hsl.out
            clear hltj hs'
            go_wp2_with fail
            go_roundw
            case rel => exact ⟨k + 1, s', by go_num, by omega, HS1, HL1, hhs', hgr'⟩
            case measure => simp [intOf]; omega
      · have hilt : ¬ (k : Int) < (m : Int) := by omega
        have HST : Hid (startM K (List.replicate n false) ms = s) := by
          have := hst.out
          rwa [List.take_of_length_le (by rw [← HM.out]; omega)] at this
        have HS0 : Hid (manyM adj s 0 = s) := rfl
        rw [HST.out] at HRB
        clear hlt hk hst HST
        go_wp2_with fail
        clear x0 x1 hilt
        go_loopw [9] (fun i wr => ∃ (t : Nat) (s' : List Bool), i = .int .i64 t ∧ t ≤ n ∧ Hid (manyM adj s t = s') ∧ Hid (s'.length = n) ∧ Hid (Has wr sb 4 (cellsB s')) ∧ Hid (W3.grownBy wr (some sb))) (fun i _ => n - (intOf i).toNat)
        case atStart => exact ⟨0, s, rfl, Nat.zero_le _, HS0, hsl, hhs, hgr⟩
        case round =>
          obtain ⟨t, s1, rfl, ht, hst, hsl1, hhs1, hgr1⟩ := hrel
          clear HS0 hsl hhs hgr
          obtain ⟨x0, x1⟩ := HX.out wr hgr1.out
          by_cases hlt : t < n
          · have hilt : (t : Int) < (n : Int) := by omega
            have HNX : Hid (manyM adj s (t + 1) = roundM 0 s1 adj) := by
              show roundM 0 (manyM adj s t) adj = _
              rw [hst.out]
            clear hst
            go_wp2_with fail
            clear x0 x1 hilt
            go_loopw [10] (fun i wr => ∃ (k : Nat) (s' : List Bool), i = .int .i64 k ∧ k ≤ n ∧ Hid (roundM 0 s1 adj = roundM k s' (adj.drop k)) ∧ Hid (s'.length = n) ∧ Hid (Has wr sb 4 (cellsB s')) ∧ Hid (W3.grownBy wr (some sb))) (fun i _ => n - (intOf i).toNat)
            case atStart => exact ⟨0, s1, rfl, Nat.zero_le _, (by show _ = _; rw [List.drop_zero]), hsl1, hhs1, hgr1⟩
            case round =>
              obtain ⟨k, s2, rfl, hk, hst, hsl2, hhs2, hgr2⟩ := hrel
              clear hsl1 hhs1 hgr1
              obtain ⟨x0, x1⟩ := HX.out wr hgr2.out
              by_cases hltk : k < n
              · have hiltk : (k : Int) < (n : Int) := by omega
                have hkl : k < l.length := by rw [← HN.out]; exact hltk
                obtain ⟨y, hy⟩ : ∃ y, l[k] = y := ⟨_, rfl⟩
                have hy2 : l[k]? = some y := by rw [List.getElem?_eq_getElem hkl, hy]
                have hym := List.mem_of_getElem? hy2
                obtain ⟨hnf6, hto⟩ := HFT.out y hym
                have HTO := hidden hto
                obtain ⟨lk, hlk⟩ : ∃ q, (y.s.fixs.map fun f => locAt ms f.to) = q := ⟨_, rfl⟩
                have HAT : Hid (adj[k]? = some lk) := by show _ = _; rw [HADJ.out k y hy2, hlk]
                have HLK : Hid (∀ (j : Nat) (f : Fx), y.s.fixs[j]? = some f → lk[j]? = some (locAt ms f.to)) := fun j f hf => by rw [← hlk, List.getElem?_map, hf]; rfl
                have HLN : Hid (lk.length = y.s.fixs.length) := by show _ = _; rw [← hlk, List.length_map]
                obtain ⟨nf, hnf⟩ : ∃ q, y.s.fixs.length = q := ⟨_, rfl⟩
                rw [hnf] at hnf6 HLN
                have HNF := hidden hnf
                obtain ⟨ya, hya⟩ : ∃ q, y.a2 = q := ⟨_, rfl⟩
                obtain ⟨yc, hyc⟩ : ∃ q, y.c2 = q := ⟨_, rfl⟩
                obtain ⟨b, off, rfl, hbB, -, -, -, -, -, -⟩ := (H13.out wr hgr2.out).at_ hkl
                have HSK : Hid (∀ W, W3.grownBy W (some sb) → W.cell? ⟨w.heap.size, 0, none⟩ = some (.slice (some ⟨b, off, none⟩) n c1) ∧ W.cell? ⟨b, off + k * 6 + 5, none⟩ = some (.slice ya nf yc) ∧ Fixs W sb ya y.s.fixs) := fun W hW => by
                  have hsx := H13.out W hW
                  obtain ⟨b', o', e', _, _, _, _, _, _, q5⟩ := hsx.at_ hkl
                  injection e' with e'; injection e' with e1 e2; subst e1; subst e2
                  rw [hy, hya, hyc, hnf] at q5
                  have hfx := hsx.fixs y hym
                  rw [hya] at hfx
                  exact ⟨(HX.out W hW).1, q5, hfx⟩
                obtain ⟨bv, hbv⟩ : ∃ q, s2[k]? = some q := ⟨_, List.getElem?_eq_getElem (by rw [hsl2.out]; exact hltk)⟩
                have HNK : Hid (roundM 0 s1 adj = roundM (k + 1) (secM s2 k lk) (adj.drop (k + 1))) := by
                  show _ = _
                  rw [hst.out, drop_next HAT.out]; rfl
                have HS0 : Hid (secM s2 k lk = secR bv s2 (lk.drop 0)) := by show _ = _; rw [List.drop_zero]; exact secR_start hbv lk
                have HBV : Hid (s2[k]? = some bv) := hbv
                obtain ⟨FS, hfs⟩ : ∃ q, y.s.fixs = q := ⟨_, rfl⟩
                rw [hfs] at HTO HLK HNF HSK
                clear hltk hkl hy hy2 hym hto hlk hnf hya hyc hbB hbv hst hfs HAT
                go_wp2_with fail
                clear x0 x1
                go_loopw [11] (fun i wr => ∃ (j : Nat) (s' : List Bool), i = .int .i64 j ∧ j ≤ nf ∧ Hid (secM s2 k lk = secR bv s' (lk.drop j)) ∧ Hid (s'[k]? = some bv) ∧ Hid (s'.length = n) ∧ Hid (Has wr sb 4 (cellsB s')) ∧ Hid (W3.grownBy wr (some sb))) (fun i _ => nf - (intOf i).toNat)
                case atStart => exact ⟨0, s2, rfl, Nat.zero_le _, HS0, HBV, hsl2, hhs2, hgr2⟩
                case round =>
                  obtain ⟨j, s3, rfl, hj, hst3, hb3, hsl3, hhs3, hgr3⟩ := hrel
                  clear HS0 HBV hsl2 hhs2 hgr2
                  obtain ⟨z0, z5, hfx⟩ := HSK.out wr hgr3.out
                  obtain ⟨-, z1⟩ := HX.out wr hgr3.out
                  have e7 : wr.cell? ⟨sb, k, none⟩ = some (.bool bv) := (hhs3.out.cell k).trans (cellsB_at hb3.out)
                  by_cases hltj : j < nf
                  · have hiltj : (j : Int) < (nf : Int) := by omega
                    cases bv with
                    | false =>
                      have HRES : Hid (roundM 0 s1 adj = roundM (k + 1) s3 (adj.drop (k + 1))) := by
                        show _ = _
                        rw [HNK.out, hst3.out]; rfl
                      clear hltj hst3 hb3 hfx
                      go_wp2_with fail
                      go_roundw
                      case rel => exact ⟨k + 1, s3, by go_num, by omega, HRES, hsl3, hhs3, hgr3⟩
                      case measure => simp [intOf]; omega
                    | true =>
                      have hjl : j < FS.length := by rw [HNF.out]; exact hltj
                      obtain ⟨fb, fo, rfl, -, -, -, f2, -⟩ := hfx.at_ hjl
                      obtain ⟨f, hf⟩ : ∃ f, FS[j] = f := ⟨_, rfl⟩
                      rw [hf] at f2
                      have hf2 : FS[j]? = some f := by rw [List.getElem?_eq_getElem hjl, hf]
                      obtain ⟨ht0, ht1⟩ := HTO.out f (List.mem_of_getElem? hf2)
                      obtain ⟨tn, htn⟩ := Int.eq_ofNat_of_zero_le ht0
                      have htl : tn < ms.length := by omega
                      have htm : (tn : Int) < (m : Int) := by have := HM.out; omega
                      obtain ⟨x, hx⟩ : ∃ x, ms[tn] = x := ⟨_, rfl⟩
                      have hx2 : ms[tn]? = some x := by rw [List.getElem?_eq_getElem htl, hx]
                      obtain ⟨mb, mo, rfl, -, -, -, p2, -⟩ := (H23.out wr hgr3.out).at_ htl
                      rw [hx] at p2
                      have hloc : locAt ms f.to = x.loc := by
                        unfold locAt
                        rw [htn, Int.toNat_natCast, hx2]; rfl
                      have hlj := HLK.out j f hf2
                      rw [hloc] at hlj
                      have HS3' : Hid (secM s2 k lk = secR true (mark s3 x.loc) (lk.drop (j + 1))) := by
                        show _ = _
                        rw [hst3.out, drop_next hlj]; rfl
                      have HB3' : Hid ((mark s3 x.loc)[k]? = some true) := mark_stays _ hb3.out
                      have HL3' : Hid ((mark s3 x.loc).length = n) := by show _ = _; rw [mark_length]; exact hsl3.out
                      have HLO := hidden (HLI.out x (List.mem_of_getElem? hx2))
                      rw [htn] at f2
                      have HG : Hid (∀ q, W3.grownBy (wr.drewN q) (some sb)) := fun q => only_drewN hgr3.out q
                      have HH : Hid (∀ q, Has (wr.drewN q) sb 4 (cellsB s3)) := fun q => hhs3.out.drewN q
                      have e0 : ∀ q, (wr.drewN q).cell? ⟨w.heap.size, 0, none⟩ = some (.slice (some ⟨b, off, none⟩) n c1) := fun _ => z0
                      have e1 : ∀ q, (wr.drewN q).cell? ⟨w.heap.size, 1, none⟩ = some (.slice (some ⟨mb, mo, none⟩) m c2) := fun _ => z1
                      have e2 : ∀ q, (wr.drewN q).cell? ⟨b, off + k * 6 + 5, none⟩ = some (.slice (some ⟨fb, fo, none⟩) nf yc) := fun _ => z5
                      have e3 : ∀ q, (wr.drewN q).cell? ⟨fb, fo + j * 4 + 2, none⟩ = some (.int .i64 (tn : Int)) := fun _ => f2
                      have e4 : ∀ q, (wr.drewN q).cell? ⟨mb, mo + tn * 4 + 2, none⟩ = some (.int .i64 x.loc) := fun _ => p2
                      obtain ⟨lo, hlo⟩ : ∃ q, x.loc = q := ⟨_, rfl⟩
                      rw [hlo] at e4 HS3' HB3' HL3' HLO
                      clear hjl hf hf2 ht0 ht1 htn hx hx2 hloc hlj hlo hst3 hb3 hfx f2 p2 htl
                      by_cases hl0 : 0 ≤ lo
                      · obtain ⟨p, hp⟩ := Int.eq_ofNat_of_zero_le hl0
                        have hpn : p < n := by have := HLO.out hl0; omega
                        have hpi : (p : Int) < (n : Int) := by omega
                        have hp0 : (0 : Int) ≤ (p : Int) := by omega
                        obtain ⟨bp, hbp⟩ : ∃ q, s3[p]? = some q := ⟨_, List.getElem?_eq_getElem (by rw [hsl3.out]; exact hpn)⟩
                        have e5 : ∀ q, (wr.drewN q).cell? ⟨sb, p, none⟩ = some (.bool bp) := fun q => ((HH.out q).cell p).trans (cellsB_at hbp)
                        have e6 : ∀ q, (wr.drewN q).frozen? ⟨sb, p, none⟩ = false := fun q => (HH.out q).free p
                        have HH2 : Hid (∀ q, Has ((wr.drewN q).setCell ⟨sb, p, none⟩ (.bool true)) sb 4 (cellsB (mark s3 (p : Int)))) := fun q => (HH.out q).mark p
                        have HG2 : Hid (∀ q, W3.grownBy ((wr.drewN q).setCell ⟨sb, p, none⟩ (.bool true)) (some sb)) := fun q => only_trans (HG.out q) (only_put' p _)
                        subst hp
                        clear hbp hpn hl0 HH HG hltj hhs3 hgr3 hsl3
                        go_wp2_with fail
                        go_quiet (fail)
                        go_wp2_with fail
                        go_roundw
                        case rel => exact ⟨j + 1, _, by go_num, by omega, HS3', HB3', HL3', HH2.out _, HG2.out _⟩
                        case measure => simp [intOf]; omega
                      · rw [mark_neg hl0] at HS3' HB3' HL3'
                        clear hltj hhs3 hgr3 hsl3
                        go_wp2_with fail
                        go_quiet (fail)
                        go_wp2_with fail
                        go_roundw
                        case rel => exact ⟨j + 1, _, by go_num, by omega, HS3', HB3', HL3', HH.out _, HG.out _⟩
                        case measure => simp [intOf]; omega
                  · have hiltj : ¬ (j : Int) < (nf : Int) := by omega
                    have HRES : Hid (roundM 0 s1 adj = roundM (k + 1) s3 (adj.drop (k + 1))) := by
                      show _ = _
                      rw [HNK.out, hst3.out, List.drop_eq_nil_of_le (by rw [HLN.out]; omega), secR_end]
                    clear hltj hst3 hb3 hfx
                    go_wp2_with fail
                    go_roundw
                    case rel => exact ⟨k + 1, s3, by go_num, by omega, HRES, hsl3, hhs3, hgr3⟩
                    case measure => simp [intOf]; omega
              · have hiltk : ¬ (k : Int) < (n : Int) := by omega
                have HRES : Hid (manyM adj s (t + 1) = s2) := by
                  show _ = _
                  rw [HNX.out, hst.out, List.drop_eq_nil_of_le (by rw [HADL.out]; omega)]; rfl
                clear hltk hst
                go_wp2_with fail
                go_roundw
                case rel => exact ⟨t + 1, s2, by go_num, by omega, HRES, hsl2, hhs2, hgr2⟩
                case measure => simp [intOf]; omega
          · have hilt : ¬ (t : Int) < (n : Int) := by omega
            have htn : t = n := by omega
            have HSB : Hid (numsM 0 s1 = reachA K (l.map Sp.s) ms) := by
              show _ = _
              rw [HAN.out, HRB.out, ← hst.out, htn]
            have HSN : Hid ((numsM 0 s1).length = N) := by show _ = _; rw [HSB.out]; exact HNN.out
            have HR0 := hidden (HEK.out wr hgr1.out)
            have HB0 := hidden (HBW.out wr hgr1.out)
            clear hlt hst htn hgr1 ht
            go_wp2_with fail
            clear x0 x1 hilt
            go_loopw [5, 13] (fun v i wr => ∃ (k p : Nat) (va : Option Addr) (vc : Nat), i = .int .i64 k ∧ v = .slice va p vc ∧ k ≤ n ∧ p ≤ k ∧ Hid ((numsM 0 (s1.take k)).length = p) ∧ Hid (wr.ownsRow w.heap.size 3 1 (.slice va p vc) p ((numsM 0 (s1.take k)).map (Value.int .i64))) ∧ Hid (Has wr sb 4 (cellsB s1)) ∧ Hid (Below w.heap.size w wr)) (fun _ i _ => n - (intOf i).toNat)
            case atStart => exact ⟨0, 0, _, _, rfl, rfl, Nat.zero_le _, Nat.le_refl _, (by show _ = _; rw [List.take_zero]; rfl), (by show World.ownsRow _ _ _ _ _ _ _; rw [List.take_zero]; exact HR0.out), hhs1, HB0⟩
            case round =>
              obtain ⟨k, p, va, vc, rfl, rfl, hk, hpk, hln, hrow, hhs, hbw⟩ := hrel
              clear HR0 HB0 hhs1
              by_cases hlt : k < n
              · have hilt : (k : Int) < (n : Int) := by omega
                obtain ⟨bv, hbv⟩ : ∃ q, s1[k]? = some q := ⟨_, List.getElem?_eq_getElem (by rw [hsl1.out]; exact hlt)⟩
                have e7 : wr.cell? ⟨sb, k, none⟩ = some (.bool bv) := (hhs.out.cell k).trans (cellsB_at hbv)
                have HNX := hidden (numsM_next hbv)
                clear hlt hbv
                cases bv with
                | false =>
                  have e : numsM 0 (s1.take (k + 1)) = numsM 0 (s1.take k) := by rw [HNX.out]; simp
                  have HLN' : Hid ((numsM 0 (s1.take (k + 1))).length = p) := by rw [e]; exact hln
                  have HRW' : Hid (wr.ownsRow w.heap.size 3 1 (.slice va p vc) p ((numsM 0 (s1.take (k + 1))).map (Value.int .i64))) := by rw [e]; exact hrow
                  clear e HNX hln hrow
                  go_wp2_with fail
                  go_roundw
                  case rel => exact ⟨k + 1, p, va, vc, by go_num, rfl, by omega, by omega, HLN', HRW', hhs, hbw⟩
                  case measure => simp [intOf]; omega
                | true =>
                  have e : numsM 0 (s1.take (k + 1)) = numsM 0 (s1.take k) ++ [(k : Int)] := by rw [HNX.out]; simp
                  have HLN' : Hid ((numsM 0 (s1.take (k + 1))).length = p + 1) := by show _ = _; rw [e, List.length_append, hln.out]; rfl
                  have HE' := hidden e
                  have hba : Below wr.heap.size wr (wr.alloc (.cells #[.int .i64 k] 3)) := (Below.refl _ _).alloc (Nat.le_refl _) _
                  have HRA := hidden (hrow.out.kept (grown_only hba) (Classical.em _))
                  have HNW : Hid (Has (wr.alloc (.cells #[.int .i64 k] 3)) wr.heap.size 3 #[.int .i64 k]) := Has.new _ _ _
                  have HST : Hid (w.heap.size ≤ (wr.alloc (.cells #[.int .i64 k] 3)).heap.size) := Nat.le_trans hbw.out.size hba.size
                  have HHA := hidden (hhs.out.alloc (.cells #[.int .i64 k] 3))
                  have HBA := hidden (hbw.out.alloc hbw.out.size (.cells #[.int .i64 k] 3))
                  clear e hba hln hrow hhs hbw HNX
                  go_wp2_with (at_builtin; refine wpList_app_int _ rfl _ _ rfl w.heap.size _ p _ rfl HRA.out wr.heap.size 1 k rfl HNW.out (by omega) HST.out ?_)
                  intro va' vc' W8 hrow8 hg8
                  have HRW' : Hid (W8.ownsRow w.heap.size 3 1 (.slice va' (p + 1) vc') (p + 1) ((numsM 0 (s1.take (k + 1))).map (Value.int .i64))) := by
                    rw [HE'.out, List.map_append]; exact hrow8
                  have HH8 := hidden (HHA.out.grown hg8 (HHA.out.other HRA.out (by decide)))
                  have HB8 := hidden (HBA.out.grown hg8 HBA.out.size (fun q hq => (HRA.out.lt q hq).1))
                  clear hrow8 hg8 HRA HNW HST HHA HBA HE' e7
                  go_wp2_with fail
                  go_roundw
                  case rel => exact ⟨k + 1, p + 1, va', vc', by go_num, rfl, by omega, by omega, HLN', HRW', HH8, HB8⟩
                  case measure => simp [intOf]; omega
              · have hilt : ¬ (k : Int) < (n : Int) := by omega
                have et : s1.take k = s1 := List.take_of_length_le (by rw [hsl1.out]; omega)
                have HRF : Hid (wr.ownsRow w.heap.size 3 1 (.slice va p vc) p ((reachA K (l.map Sp.s) ms).map (Value.int .i64))) := by
                  have := hrow.out
                  rw [et, HSB.out] at this
                  exact this
                have HPN : Hid (p = N) := by
                  show _ = _
                  rw [← hln.out, et]; exact HSN.out
                clear hlt et hln hrow hhs
                go_wp2_with fail
                go_ret
                have e := HPN.out
                have hrf := HRF.out
                clear HPN HRF
                subst e
                exact ⟨_, _, rfl, HNN.out.symm, hrf, hbw.out⟩

end Go.Proofs.Ytjpclpjhigongaa

/-
  impl.partsValid, impl.openSymbols and impl.ObjectValid: a valid object's symbols that are not local lie in a map by their names.
-/
import Derived.Test.YtjafekjcncmjjaaGreatSymI
import Derived.Test.YtjafekjcncmjjaaGreatSecK
import Derived.Test.YtjafekjcncmjjaaGreatSymMap
namespace Go.Proofs.YtjafekjcncmjjaaGreat
open Go.RowKit

set_option maxRecDepth 100000 in
set_option maxHeartbeats 2000000 in
theorem partsValid_any (w : World) (B : Nat) (a1 a2 : Option Addr) (c1 c2 n m : Nat) (l : List Sp) (ms : List Sm) (hn : n = l.length) (hm : m = ms.length) (h1 : Sects w B a1 l) (h2 : Syms w B a2 ms) (hB : B ≤ w.heap.size) (hlen : n ≤ 9223372036854775807) (hlem : m ≤ 9223372036854775807)
    (hl : ∀ y ∈ l, y.s.fits) (hs : ∀ x ∈ ms, x.fits) :
    Calls Tryz.prog 66 #[.agg #[.slice a1 n c1, .slice a2 m c2]] w fun e w' => e = .returned (.bool (partsOk (l.map Sp.s) ms)) ∧ Below w.heap.size w w' := by
  obtain ⟨ok, hok⟩ : ∃ ok, ok = partsOk (l.map Sp.s) ms := ⟨_, rfl⟩
  have HOK : Hid (ok = (l.all (fun y => sectOk y.s m) && (ms.all (fun z => symOk z (l.map Sp.s)) && (decide (n ≤ 8) && decide (m ≤ 12))))) := by
    show _ = _
    rw [hok, hn, hm]
    unfold partsOk
    rw [List.all_map, List.length_map]
    rfl
  rw [← hok]
  have HN := hidden hn
  have HM := hidden hm
  have H1 := hidden h1
  have H2 := hidden h2
  have HL := hidden hl
  have HS := hidden hs
  have HB := hidden hB
  have HSV : Hid (∀ W, Below w.heap.size w W → ∀ x ∈ ms, Calls Tryz.prog 79 #[x.agg, .slice a1 n c1] W fun e w' => e = .returned (.bool (symOk x (l.map Sp.s))) ∧ Below W.heap.size W w') := fun W hW x hx => by
    have := wantSymbolValid W B x a1 c1 l (h1.below (hW.mono hB)) (Nat.le_trans hB hW.size) (by omega) (hs x hx) hl
    rwa [← hn] at this
  clear hok hn hm h1 h2 hl hs
  go_enter Tryz.func66, Tryz.ntmps66
  by_cases hn8 : (8 : Int) < (n : Int)
  · have hF : ok = false := by rw [HOK.out, show decide (n ≤ 8) = false by simp; omega]; simp
    have HF := hidden hF
    clear hF HOK
    go_wp2_with fail
    go_ret
    exact ⟨ret_bool HF.out.symm, (Below.refl _ _).alloc (Nat.le_refl _) _⟩
  by_cases hm12 : (12 : Int) < (m : Int)
  · have hF : ok = false := by rw [HOK.out, show decide (m ≤ 12) = false by simp; omega]; simp
    have HF := hidden hF
    clear hF HOK
    go_wp2_with fail
    go_ret
    exact ⟨ret_bool HF.out.symm, (Below.refl _ _).alloc (Nat.le_refl _) _⟩
  have HOK2 : Hid (ok = (l.all (fun y => sectOk y.s m) && ms.all (fun z => symOk z (l.map Sp.s)))) := by
    show _ = _
    rw [HOK.out, show decide (n ≤ 8) = true by simp; omega, show decide (m ≤ 12) = true by simp; omega]; simp
  clear HOK
  go_wp2_with fail
  go_loopw [20] (fun i wr => ∃ k : Nat, i = .int .i64 k ∧ k ≤ n ∧ Hid (l.all (fun y => sectOk y.s m) = (l.drop k).all (fun y => sectOk y.s m)) ∧ Below (w.heap.size + 1) (w.alloc (.cells #[.slice a1 n c1, .slice a2 m c2] 32)) wr) (fun i _ => n - (intOf i).toNat)
  case atStart => exact ⟨0, rfl, Nat.zero_le _, hidden (by simp), Below.refl _ _⟩
  case round =>
    obtain ⟨k, rfl, hk, hall, hbw⟩ := hrel
    have hb0 : Below w.heap.size w wr := ((Below.refl _ _).alloc (Nat.le_refl _) _).trans (hbw.mono (Nat.le_succ _))
    have hsz : w.heap.size + 1 ≤ wr.heap.size := by have := hbw.size; simpa using this
    have HC0 : Hid (∀ W, Below wr.heap.size wr W → W.cell? ⟨w.heap.size, 0, none⟩ = some (.slice a1 n c1)) := fun W hW => ((hW.cell (by show w.heap.size < _; omega)).trans (hbw.cell (Nat.lt_succ_self _))).trans ((Has.new w 32 _).cell 0)
    have HC1 : Hid (∀ W, Below wr.heap.size wr W → W.cell? ⟨w.heap.size, 1, none⟩ = some (.slice a2 m c2)) := fun W hW => ((hW.cell (by show w.heap.size < _; omega)).trans (hbw.cell (Nat.lt_succ_self _))).trans ((Has.new w 32 _).cell 1)
    by_cases hlt : k < n
    · have hi : (k : Int) < (n : Int) := by omega
      have hkl : k < l.length := by rw [← HN.out]; exact hlt
      obtain ⟨b, off, rfl, hb, hp⟩ := H1.out.at_ hkl
      obtain ⟨y, hy⟩ : ∃ y, l[k] = y := ⟨_, rfl⟩
      rw [hy] at hp
      have hmem : y ∈ l := by rw [← hy]; exact List.getElem_mem hkl
      have hpr : SecAt wr b (off + k * 6) y := hp.keep fun i => by rw [hb0.cell (by show b < _; have := HB.out; omega)]
      obtain ⟨p0, p1, p2, p3, p4, p5⟩ := hpr
      have HD : Hid (l.drop k = y :: l.drop (k + 1)) := by show _ = _; rw [List.drop_eq_getElem_cons hkl, hy]
      obtain ⟨sok, hsok⟩ : ∃ b, sectOk y.s m = b := ⟨_, rfl⟩
      have HSO := hidden hsok
      have HC : Hid (∀ W, Below wr.heap.size wr W → Calls Tryz.prog 78 #[.agg #[.string y.s.name, .int .i64 y.s.kind, .int .i64 y.s.align, .slice y.a1 y.s.bytes.length y.c1, .int .i64 y.s.size, .slice y.a2 y.s.fixs.length y.c2], .int .i64 m] W fun e w' => e = .returned (.bool sok) ∧ Below W.heap.size W w') := fun W hW => by
        have hBW : Below w.heap.size w W := hb0.trans (hW.mono hb0.size)
        have := wantSectionValid W B y.s m y.a1 y.c1 y.a2 y.c2 ((H1.out.bytes y hmem).below (hBW.mono HB.out)) ((H1.out.fixs y hmem).below (hBW.mono HB.out)) (Nat.le_trans HB.out hBW.size) (HL.out y hmem) ⟨by omega, by omega⟩
        rwa [HSO.out] at this
      have x1 := HC1.out (wr.alloc (.cells #[.string y.s.name, .int .i64 y.s.kind, .int .i64 y.s.align, .slice y.a1 y.s.bytes.length y.c1, .int .i64 y.s.size, .slice y.a2 y.s.fixs.length y.c2] 51)) ((Below.refl _ _).alloc (Nat.le_refl _) _)
      have hW1 : Below wr.heap.size wr (wr.alloc (.cells #[.string y.s.name, .int .i64 y.s.kind, .int .i64 y.s.align, .slice y.a1 y.s.bytes.length y.c1, .int .i64 y.s.size, .slice y.a2 y.s.fixs.length y.c2] 51)) := (Below.refl _ _).alloc (Nat.le_refl _) _
      clear hp hy hmem hkl hsok
      go_wp2_with fail
      refine (HC.out _ hW1).mono ?_
      clear HC
      rintro e w2 ⟨rfl, hb2⟩
      have hBw2 := hW1.trans (hb2.mono hW1.size)
      clear p0 p1 p2 p3 p4 p5 x1 hW1 hb2 HC0 HC1
      rcases sok with _ | _
      · have HF : Hid (ok = false) := by show _ = _; rw [HOK2.out, hall.out, HD.out, List.all_cons, HSO.out]; simp
        go_wp2_with fail
        go_ret
        exact ⟨ret_bool HF.out.symm, hb0.trans (hBw2.mono hb0.size)⟩
      · have HN2 : Hid (l.all (fun y => sectOk y.s m) = (l.drop (k + 1)).all (fun y => sectOk y.s m)) := by show _ = _; rw [hall.out, HD.out, List.all_cons, HSO.out, Bool.true_and]
        have hbw2 : Below (w.heap.size + 1) (w.alloc (.cells #[.slice (some ⟨b, off, none⟩) n c1, .slice a2 m c2] 32)) w2 := hbw.trans (hBw2.mono (by simpa using hbw.size))
        go_wp2_with fail
        go_roundw
        case rel => exact ⟨k + 1, by go_num, by omega, HN2, hbw2⟩
        case measure => simp [intOf]; omega
    · have hi : ¬ (k : Int) < (n : Int) := by omega
      have HA : Hid (ok = ms.all (fun z => symOk z (l.map Sp.s))) := by
        show _ = _
        have hd : l.drop k = [] := List.drop_eq_nil_of_le (by rw [← HN.out]; omega)
        rw [HOK2.out, hall.out, hd]; simp
      have x1' := HC1.out wr (Below.refl _ _)
      have HBW := hidden hbw
      clear hall HOK2
      go_wp2_with fail
      clear x1' hbw hb0 hsz HC0 HC1 hlt hi hk
      go_loopw [34] (fun i wq => ∃ k : Nat, i = .int .i64 k ∧ k ≤ m ∧ Hid (ms.all (fun z => symOk z (l.map Sp.s)) = (ms.drop k).all (fun z => symOk z (l.map Sp.s))) ∧ Below (w.heap.size + 1) (w.alloc (.cells #[.slice a1 n c1, .slice a2 m c2] 32)) wq) (fun i _ => m - (intOf i).toNat)
      case atStart => exact ⟨0, rfl, Nat.zero_le _, hidden (by simp), HBW.out⟩
      case round =>
        obtain ⟨k, rfl, hk, hall, hbw⟩ := hrel
        clear HBW
        have hb0 : Below w.heap.size w wr := ((Below.refl _ _).alloc (Nat.le_refl _) _).trans (hbw.mono (Nat.le_succ _))
        have hsz : w.heap.size + 1 ≤ wr.heap.size := by have := hbw.size; simpa using this
        have HC0 : Hid (∀ W, Below wr.heap.size wr W → W.cell? ⟨w.heap.size, 0, none⟩ = some (.slice a1 n c1)) := fun W hW => ((hW.cell (by show w.heap.size < _; omega)).trans (hbw.cell (Nat.lt_succ_self _))).trans ((Has.new w 32 _).cell 0)
        by_cases hlt : k < m
        · have hi : (k : Int) < (m : Int) := by omega
          have hkl : k < ms.length := by rw [← HM.out]; exact hlt
          obtain ⟨b, off, rfl, hb, p0, p1, p2, p3⟩ := (H2.out.below (hb0.mono HB.out)).at_ hkl
          obtain ⟨z, hz⟩ : ∃ z, ms[k] = z := ⟨_, rfl⟩
          rw [hz] at p0 p1 p2 p3
          have HD : Hid (ms.drop k = z :: ms.drop (k + 1)) := by show _ = _; rw [List.drop_eq_getElem_cons hkl, hz]
          have hzm : z ∈ ms := by rw [← hz]; exact List.getElem_mem hkl
          have hW1 : Below wr.heap.size wr (wr.alloc (.cells #[.string z.name, .int .i64 z.bind, .int .i64 z.loc, .int .i64 z.value] 56)) := (Below.refl _ _).alloc (Nat.le_refl _) _
          have HC := hidden (HSV.out _ (hb0.trans (hW1.mono hb0.size)) z hzm)
          obtain ⟨sok, hsok⟩ : ∃ q, symOk z (l.map Sp.s) = q := ⟨_, rfl⟩
          rw [hsok] at HC
          have HSO := hidden hsok
          have x0 := HC0.out _ hW1
          unfold Sm.agg at HC
          clear hz hkl hsok
          go_wp2_with fail
          refine HC.out.mono ?_
          clear HC
          rintro e w2 ⟨rfl, hb2⟩
          have hBw2 := hW1.trans (hb2.mono hW1.size)
          have hbw2 := hidden (hbw.trans (hBw2.mono (by simpa using hbw.size)))
          have hfin := hidden (hb0.trans (hBw2.mono hb0.size))
          clear p0 p1 p2 p3 x0 hW1 hb2
          rcases sok with _ | _
          · have HF : Hid (ok = false) := by show _ = _; rw [HA.out, hall.out, HD.out, List.all_cons, HSO.out]; simp
            go_wp2_with fail
            go_ret
            exact ⟨ret_bool HF.out.symm, hfin.out⟩
          · have HN2 : Hid (ms.all (fun z => symOk z (l.map Sp.s)) = (ms.drop (k + 1)).all (fun z => symOk z (l.map Sp.s))) := by show _ = _; rw [hall.out, HD.out, List.all_cons, HSO.out, Bool.true_and]
            go_wp2_with fail
            go_roundw
            case rel => exact ⟨k + 1, by go_num, by omega, HN2, hbw2.out⟩
            case measure => simp [intOf]; omega
        · have hi : ¬ (k : Int) < (m : Int) := by omega
          have HF : Hid (ok = true) := by
            show _ = _
            have hd : ms.drop k = [] := List.drop_eq_nil_of_le (by rw [← HM.out]; omega)
            rw [HA.out, hall.out, hd]; rfl
          clear hall
          go_wp2_with fail
          go_ret
          exact ⟨ret_bool HF.out.symm, hb0⟩
theorem grown_below {w w' : World} (h : Below w.heap.size w w') : w.grownBy w' none := ⟨h.os, h.tape, h.output, h.size, fun i hi _ => h.block i hi⟩
/-- What comes of an object: a map of its symbols that are not local, if it is valid. -/
def Opened (w : World) (ok : Bool) (ms : List Sm) (e : Ending) (w' : World) : Prop :=
  Below w.heap.size w w' ∧ (ok = false → e = .returned (.tuple #[.map none, .bool false])) ∧ (ok = true → ∃ b D, e = .returned (.tuple #[.map (some b), .bool true]) ∧ w.heap.size ≤ b ∧ ms.length ≤ 12 ∧ SymMap w' b 12 D (opens ms))
set_option maxRecDepth 100000 in
set_option maxHeartbeats 2000000 in
theorem openSymbols_any (w : World) (B : Nat) (a1 a2 : Option Addr) (c1 c2 n m : Nat) (l : List Sp) (ms : List Sm) (hn : n = l.length) (hm : m = ms.length) (h1 : Sects w B a1 l) (h2 : Syms w B a2 ms) (hB : B ≤ w.heap.size) (hlen : n ≤ 9223372036854775807) (hlem : m ≤ 9223372036854775807)
    (hl : ∀ y ∈ l, y.s.fits) (hs : ∀ x ∈ ms, x.fits) :
    Calls Tryz.prog 49 #[.agg #[.slice a1 n c1, .slice a2 m c2]] w (Opened w (objOk (l.map Sp.s) ms) ms) := by
  have hmm := @run_makeMap Tryz.prog
  have HPV := hidden (fun (W : World) (hW : Below w.heap.size w W) => partsValid_any W B a1 a2 c1 c2 n m l ms hn hm (h1.below (hW.mono hB)) (h2.below (hW.mono hB)) (Nat.le_trans hB hW.size) hlen hlem hl hs)
  obtain ⟨ok, hok⟩ : ∃ ok, ok = objOk (l.map Sp.s) ms := ⟨_, rfl⟩
  obtain ⟨pk, hpk⟩ : ∃ pk, partsOk (l.map Sp.s) ms = pk := ⟨_, rfl⟩
  have HOK : Hid (ok = (pk && apart [] ms)) := by show _ = _; rw [hok, objOk_split, hpk]
  have HMS : Hid (pk = true → ms.length ≤ 12) := fun e => by rw [← hpk] at e; unfold partsOk at e; simp only [Bool.and_eq_true, decide_eq_true_eq] at e; exact e.2.2.2
  rw [← hok]
  rw [hpk] at HPV
  have HM := hidden hm
  have H2 := hidden h2
  have HS := hidden hs
  have HB := hidden hB
  clear hok hpk hn hm h1 h2 hl hs hB
  go_enter Tryz.func49, Tryz.ntmps49
  have hb0 : Below w.heap.size w (w.alloc (.cells #[.slice a1 n c1, .slice a2 m c2] 32)) := (Below.refl _ _).alloc (Nat.le_refl _) _
  have hC := HPV.out _ hb0
  have HC := hidden hC
  clear hC HPV
  go_wp2_with fail
  refine HC.out.mono ?_
  clear HC
  rintro e w1 ⟨rfl, hb1⟩
  have hbw1 : Below (w.heap.size + 1) (w.alloc (.cells #[.slice a1 n c1, .slice a2 m c2] 32)) w1 := hb1.mono (by simp)
  have hbx1 : Below w.heap.size w w1 := hb0.trans (hbw1.mono (Nat.le_succ _))
  clear hb0 hb1
  rcases pk with _ | _
  · have HF : Hid (ok = false) := by show _ = _; rw [HOK.out]; rfl
    go_wp2_with fail
    go_ret2
    exact ⟨hbx1, fun _ => rfl, fun e => by rw [HF.out] at e; cases e⟩
  have HA : Hid (ok = apart [] ms) := by show _ = _; rw [HOK.out]; rfl
  have hm12 : m ≤ 12 := by rw [HM.out]; exact HMS.out rfl
  have q1 : w1.cell? ⟨w.heap.size, 1, none⟩ = some (.slice a2 m c2) := (hbw1.cell (Nat.lt_succ_self _)).trans ((Has.new w 32 _).cell 1)
  have q1' : (w1.alloc (.map #[] 0)).cell? ⟨w.heap.size, 1, none⟩ = some (.slice a2 m c2) := (World.cell?_alloc_lt _ _ _ (by show w.heap.size < _; have := hbw1.size; simp at this; omega)).trans q1
  go_wp2_with fail
  have hb1 : Below (w.heap.size + 1) (w.alloc (.cells #[.slice a1 n c1, .slice a2 m c2] 32)) (w1.alloc (.map #[] 0)) := hbw1.alloc (by simpa using hbw1.size) _
  obtain ⟨mb, hmb⟩ : ∃ q, w1.heap.size = q := ⟨_, rfl⟩
  have hset : SymMap (w1.alloc (.map #[] 0)) mb 0 (.map []) [] := by rw [← hmb]; exact SymMap.new w1
  have hmb1 : w.heap.size + 1 ≤ mb := by have := hbw1.size; simp at this; omega
  rw [hmb]
  have HSET := hidden hset
  have HB1 := hidden hb1
  clear hset hb1 hmb q1 q1' hbw1 hbx1 HOK
  go_loopw [16] (fun i wq => ∃ (k : Nat) (D : DataW Unit), i = .int .i64 k ∧ k ≤ m ∧ Hid (apart [] ms = apart (ms.take k) (ms.drop k)) ∧ Hid (SymMap wq mb k D (opens (ms.take k))) ∧ Below (w.heap.size + 1) (w.alloc (.cells #[.slice a1 n c1, .slice a2 m c2] 32)) wq) (fun i _ => m - (intOf i).toNat)
  case atStart => exact ⟨0, _, rfl, Nat.zero_le _, hidden (by simp), HSET.out, HB1.out⟩
  case round =>
    obtain ⟨k, D, rfl, hk, hall, hset, hbw⟩ := hrel
    clear HSET HB1
    have hb0 : Below w.heap.size w wr := ((Below.refl _ _).alloc (Nat.le_refl _) _).trans (hbw.mono (Nat.le_succ _))
    by_cases hlt : k < m
    · have hi : (k : Int) < (m : Int) := by omega
      have hkl : k < ms.length := by rw [← HM.out]; exact hlt
      obtain ⟨b, off, rfl, hb, p0, p1, p2, p3⟩ := (H2.out.below (hb0.mono HB.out)).at_ hkl
      obtain ⟨z, hz⟩ : ∃ z, ms[k] = z := ⟨_, rfl⟩
      rw [hz] at p0 p1 p2 p3
      have HD : Hid (ms.drop k = z :: ms.drop (k + 1)) := by show _ = _; rw [List.drop_eq_getElem_cons hkl, hz]
      have HT : Hid (ms.take (k + 1) = ms.take k ++ [z]) := by show _ = _; rw [List.take_add_one, List.getElem?_eq_getElem hkl, hz]; rfl
      have hzm : z ∈ ms := by rw [← hz]; exact List.getElem_mem hkl
      have hzs : z.name.size ≤ maxLen := (HS.out z hzm).name
      have hW1 : Below wr.heap.size wr (wr.alloc (.cells #[.string z.name, .int .i64 z.bind, .int .i64 z.loc, .int .i64 z.value] 56)) := (Below.refl _ _).alloc (Nat.le_refl _) _
      have hset2 : Hid (SymMap (wr.alloc (.cells #[.string z.name, .int .i64 z.bind, .int .i64 z.loc, .int .i64 z.value] 56)) mb k D (opens (ms.take k))) := hset.out.kept (grown_below hW1) (by simp)
      have hbw2 := hidden (hbw.trans (hW1.mono (by simpa using hbw.size)))
      have hfin := hidden (hb0.trans (hW1.mono hb0.size))
      clear hz hkl hset hW1
      by_cases hz0 : z.bind = 0
      · have y0 : (z.bind == 0) = true := by simp [hz0]
        have HN2 : Hid (apart [] ms = apart (ms.take (k + 1)) (ms.drop (k + 1))) := by show _ = _; rw [hall.out, HD.out, apart, opens_clash0 _ _ hz0, HT.out]; simp
        have hset3 : Hid (SymMap (wr.alloc (.cells #[.string z.name, .int .i64 z.bind, .int .i64 z.loc, .int .i64 z.value] 56)) mb (k + 1) D (opens (ms.take (k + 1)))) := by
          have e := opens_snoc (ms.take k) z
          rw [if_pos hz0, List.append_nil] at e
          show SymMap _ _ _ _ _
          rw [HT.out, e]; exact hset2.out.more (by omega)
        clear hz0 hset2 hfin
        go_wp2_with fail
        go_roundw
        case rel => exact ⟨k + 1, D, by go_num, by omega, HN2, hset3, hbw2.out⟩
        case measure => simp [intOf]; omega
      have y0 : (z.bind == 0) = false := by simpa using hz0
      obtain ⟨old, hlook⟩ := hset2.out.look hzs
      have HCL : Hid ((ms.take k).all (fun x => !clash x z) = !memS ((opens (ms.take k)).map Sm.name) z.name) := by show _ = _; rw [opens_clash _ _ hz0]
      obtain ⟨bad, hbad⟩ : ∃ q, memS ((opens (ms.take k)).map Sm.name) z.name = q := ⟨_, rfl⟩
      have HBAD := hidden hbad
      rw [hbad] at hlook HCL
      unfold Sm.agg at hlook
      have HZ0 := hidden hz0
      clear hz0 hbad
      rcases bad with _ | _
      · have hno : z.name ∉ (opens (ms.take k)).map Sm.name := fun e => by have := memS_iff.2 e; rw [HBAD.out] at this; cases this
        have HN2 : Hid (apart [] ms = apart (ms.take (k + 1)) (ms.drop (k + 1))) := by show _ = _; rw [hall.out, HD.out, apart, HCL.out, HT.out]; simp
        have hW2 : Below (wr.alloc (.cells #[.string z.name, .int .i64 z.bind, .int .i64 z.loc, .int .i64 z.value] 56)).heap.size (wr.alloc (.cells #[.string z.name, .int .i64 z.bind, .int .i64 z.loc, .int .i64 z.value] 56)) ((wr.alloc (.cells #[.string z.name, .int .i64 z.bind, .int .i64 z.loc, .int .i64 z.value] 56)).alloc (.cells #[.string old.name, .int .i64 old.bind, .int .i64 old.loc, .int .i64 old.value] 56)) := (Below.refl _ _).alloc (Nat.le_refl _) _
        obtain ⟨w3, D3, hput, hset3, hg3⟩ := (hset2.out.kept (grown_below hW2) (by simp)).put (x := z) hzs (show k < maxLen by unfold maxLen; omega) hno
        have hset4 : Hid (SymMap w3 mb (k + 1) D3 (opens (ms.take (k + 1)))) := by
          have e := opens_snoc (ms.take k) z
          rw [if_neg HZ0.out] at e
          show SymMap _ _ _ _ _
          rw [HT.out, e]; exact hset3
        have hbw3 : Hid (Below (w.heap.size + 1) (w.alloc (.cells #[.slice a1 n c1, (.slice (some ⟨b, off, none⟩) m c2)] 32)) w3) := (hbw2.out.trans (hW2.mono (by simpa using hbw2.out.size))).grown hg3 (by have := hbw2.out.size; simp at this ⊢; omega) (by intro q hq; injection hq with hq; omega)
        unfold Sm.agg at hput
        clear hset3 hg3 hW2 hset2 hfin hno
        go_wp2_with fail
        go_roundw
        case rel => exact ⟨k + 1, D3, by go_num, by omega, HN2, hset4, hbw3.out⟩
        case measure => simp [intOf]; omega
      · have HF : Hid (ok = false) := by show _ = _; rw [HA.out, hall.out, HD.out, apart, HCL.out]; simp
        go_wp2_with fail
        go_ret2
        exact ⟨hfin.out.alloc (by have := hfin.out.size; omega) _, fun _ => rfl, fun e => by rw [HF.out] at e; cases e⟩
    · have hi : ¬ (k : Int) < (m : Int) := by omega
      have hkm : k = m := by omega
      have HFIN : Hid (ok = true ∧ SymMap wr mb 12 D (opens ms)) := by
        have hd : ms.drop k = [] := List.drop_eq_nil_of_le (by rw [← HM.out]; omega)
        have ht : ms.take k = ms := List.take_of_length_le (by rw [← HM.out]; omega)
        refine ⟨?_, ?_⟩
        · rw [HA.out, hall.out, hd]; rfl
        · have := hset.out.more (c := 12) (by omega); rwa [ht] at this
      clear hall hset hkm
      go_wp2_with fail
      go_ret2
      exact ⟨hb0, (fun e => by rw [HFIN.out.1] at e; cases e), fun _ => ⟨mb, D, rfl, by omega, by have := HM.out; omega, HFIN.out.2⟩⟩
set_option maxRecDepth 100000 in
set_option maxHeartbeats 2000000 in
theorem objectValid_any (w : World) (B : Nat) (a1 a2 : Option Addr) (c1 c2 n m : Nat) (l : List Sp) (ms : List Sm) (hn : n = l.length) (hm : m = ms.length) (h1 : Sects w B a1 l) (h2 : Syms w B a2 ms) (hB : B ≤ w.heap.size) (hlen : n ≤ 9223372036854775807) (hlem : m ≤ 9223372036854775807)
    (hl : ∀ y ∈ l, y.s.fits) (hs : ∀ x ∈ ms, x.fits) :
    Calls Tryz.prog 25 #[.agg #[.slice a1 n c1, .slice a2 m c2]] w fun e w' => e = .returned (.bool (objOk (l.map Sp.s) ms)) ∧ Below w.heap.size w w' := by
  have hb0 : Below w.heap.size w (w.alloc (.cells #[.slice a1 n c1, .slice a2 m c2] 32)) := (Below.refl _ _).alloc (Nat.le_refl _) _
  have hC := openSymbols_any (w.alloc (.cells #[.slice a1 n c1, .slice a2 m c2] 32)) B a1 a2 c1 c2 n m l ms hn hm (h1.below (hb0.mono hB)) (h2.below (hb0.mono hB)) (Nat.le_trans hB hb0.size) hlen hlem hl hs
  obtain ⟨ok, hok⟩ : ∃ ok, objOk (l.map Sp.s) ms = ok := ⟨_, rfl⟩
  rw [hok] at hC ⊢
  have HC := hidden hC
  clear hC hok hn hm h1 h2 hl hs hB
  go_enter Tryz.func25, Tryz.ntmps25
  go_wp2_with fail
  refine HC.out.mono ?_
  clear HC
  rintro e w1 ⟨hb1, hf, ht⟩
  have hbx := hidden (hb0.trans (hb1.mono hb0.size))
  clear hb0 hb1
  rcases ok with _ | _
  · obtain rfl := hf rfl
    clear hf ht
    go_wp2_with fail
    go_ret
    exact ⟨rfl, hbx.out⟩
  · obtain ⟨b, D, rfl, -, -, -⟩ := ht rfl
    clear hf ht
    go_wp2_with fail
    go_ret
    exact ⟨rfl, hbx.out⟩
theorem wantObjectValid : WantObjectValid := fun w B a1 a2 c1 c2 l ms h1 h2 hB hlen hlem hl hs => objectValid_any w B a1 a2 c1 c2 _ _ l ms rfl rfl h1 h2 hB hlen hlem hl hs

end Go.Proofs.YtjafekjcncmjjaaGreat

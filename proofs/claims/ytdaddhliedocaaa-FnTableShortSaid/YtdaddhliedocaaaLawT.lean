/-
  The walk of FnTableShort.
-/
import Derived.Test.YtdaddhliedocaaaTableI
import Derived.Test.YtdaddhliedocaaaLawN3
import Derived.Test.YtdaddhliedocaaaKeptP
namespace Go.Proofs.Ytdaddhliedocaaa
open Go.RowKit

def shortTys (names : List ByteArray) (V X : Value) (p : Addr) (s t : ByteArray) : List TyB :=
  [.empty, .part (names.map Value.string), .row (names.map Value.string), .val V, .val (.pointer (some p)), .val (.string s), .val (.string t), .one (.string t), .row ((names ++ [t]).map Value.string), .any, .val X, .val (.bool true), .val (.bool true)]
/-- A table of bytes. -/
def TabT (l : List Int) (w : World) (v : Value) : Prop := ∃ (a : Option Addr) (c : Nat), v = .slice a l.length c ∧ l.length ≤ c ∧ c ≤ maxLen ∧ Ints w .u8 w.heap.size a l
def ShortR (base : Nat) (tys : List TyB) (l : List Int) (j : Nat) (w : World) (v : Value) : Prop := if j = 9 then TabT l w v else TypedB base 9 tys j w v
theorem ShortR.typed {base : Nat} {tys : List TyB} {l : List Int} {j : Nat} {w : World} {v : Value} (h : ShortR base tys l j w v) (hj : j ≠ 9) : TypedB base 9 tys j w v := by
  unfold ShortR at h; rwa [if_neg hj] at h
theorem ShortR.of {base : Nat} {tys : List TyB} {l : List Int} {j : Nat} {w : World} {v : Value} (h : TypedB base 9 tys j w v) (hj : j ≠ 9) : ShortR base tys l j w v := by
  unfold ShortR; rwa [if_neg hj]
theorem ShortR.keep {base : Nat} {tys : List TyB} {l : List Int} {j : Nat} {w w' : World} {v : Value} (h : ShortR base tys l j w v) (hj : j ≠ 9) (hk : TypedB base 9 tys j w v → TypedB base 9 tys j w' v) : ShortR base tys l j w' v :=
  ShortR.of (hk (h.typed hj)) hj
/-- Where no old block changes nothing is lost. -/
theorem TyB.only {base : Nat} {T : TypeId} {w w' : World} (hg : w.grownBy w' none) (hb : base ≤ w.heap.size) : ∀ (t : TyB) (v : Value), t.has base T w v → t.has base T w' v
  | .any, _, _ => trivial
  | .val _, _, h => h
  | .empty, _, ⟨g, h1, h2, h3⟩ => ⟨g, h1, h2, h3.grown hg (by simp)⟩
  | .row _, v, h => World.ownsRow.kept h hg (Classical.em (v.ownBlock = none))
  | .one _, _, ⟨g, h1, h2, h3⟩ => ⟨g, h1, h2, h3.grown hg (by simp)⟩
  | .part _, _, ⟨b, off, c, h1, h2, h3⟩ => ⟨b, off, c, h1, h2, fun i u hi => (World.cell?_of_block (hg.block b (by omega) (by simp))).trans (h3 i u hi)⟩
theorem tail_ends (s : ByteArray) : endsS s (s.extract 1 s.size) = true := by
  rw [endsS_iff]
  have : (s.extract 1 s.size).data.toList = s.data.toList.drop 1 := by
    rw [ByteArray.data_extract, Array.toList_extract]
    show List.extract _ 1 s.size = _
    rw [List.extract_eq_take_drop]
    apply List.take_of_length_le
    rw [List.length_drop]
    show s.data.toList.length - 1 ≤ s.size - 1
    simp
  rw [this]
  exact List.drop_suffix 1 _
set_option maxHeartbeats 2000000 in
theorem law_TableShort (w : World) (a0 : Option Addr) (len cap : Nat) (h : Came w a0 len cap) :
    Calls Try.prog 7 #[.slice a0 len cap] w fun e w' => e = .returned (.bool true) ∧ Below w.heap.size w w' := by
  obtain ⟨l0, h, rfl, hcap, hmax⟩ := h
  by_cases hbig : 1048576 < l0.length
  · have hd : (1048576 : Int) < (l0.length : Int) := by omega
    go_enter Try.func7, Try.ntmps7
    go_wp2
    go_ret
    exact ⟨rfl, Below.refl _ _⟩
  have hd : ¬ (1048576 : Int) < (l0.length : Int) := by omega
  go_enter Try.func7, Try.ntmps7
  go_wp2_with fail
  refine (drawNameTable_any w a0 cap l0 h hcap hmax).mono ?_
  rintro e w1 ⟨v, ss, rfl, hown, hs9, hn41, hb⟩
  clear h
  have hown1 : w1.ownsRow w.heap.size 9 1 v (ss.map Value.string).length (ss.map Value.string) := by rw [List.length_map]; exact hown
  obtain ⟨a, c, rfl, hc, hv⟩ := vals_of_own hown1
  rw [List.length_map] at hc ⊢
  have hss : ∀ x ∈ ss, x.size ≤ maxLen := fun x hx => by have := hs9 x hx; unfold maxLen; omega
  clear hown hown1
  go_wp2_with fail
  refine (nameTable_any w1 w1.heap.size a c ss hv (Nat.le_refl _) (by omega) hss).mono ?_
  rintro e w2 ⟨a2, c2, rfl, hc2, hm2, hi2, hb2⟩
  have hv2 := hv.below hb2
  go_wp2_with fail
  refine (nameTable'_any w2 w1.heap.size a c ss hv2 hb2.size (by omega) hss).mono ?_
  rintro e w3 ⟨a3, c3, rfl, hc3, hm3, hi3, hb3⟩
  have hv3 := hv2.below (hb3.mono hb2.size)
  have hx3 := hi2.below hb3
  have hB3 := Nat.le_trans hb2.size hb3.size
  have hb13 : Below w.heap.size w w3 := (hb.trans (hb2.mono hb.size)).trans (hb3.mono (Nat.le_trans hb.size hb2.size))
  have hx23 := hb3.size
  clear hv hv2 hi2 hb2 hb3 hb
  go_wp2_with fail
  refine (sameBytes_yes w3 w2.heap.size w3.heap.size a2 a3 c2 c3 (nameTab ss) hx3 hi3 (by unfold maxLen at hm2; omega)).mono ?_
  rintro e _ ⟨rfl, m, rfl⟩
  clear hi3
  have HFIN := hidden (below_drewN hb13 m)
  obtain ⟨n, hL⟩ : ∃ n, n = ss.length := ⟨_, rfl⟩
  obtain ⟨k2, hk2⟩ : ∃ k, k = (nameTab ss).length := ⟨_, rfl⟩
  rw [← hL, ← hk2]
  have HL := hidden hL
  have HK := hidden hk2
  have HV3 := hidden hv3
  have HX3 := hidden hx3
  have HS := hidden hss
  have hcn : n ≤ c := by omega
  have hn41' : n ≤ 41 := by omega
  have hc2' : k2 ≤ c2 := by omega
  have hB3' := hidden hB3
  have hx23' := hidden hx23
  clear hL hk2 hv3 hx3 hss hs9 hb13 hc hc2 hn41 hB3 hx23
  by_cases h0 : k2 = 0
  · have hk0 : ((k2 : Int) == 0) = true := by simp [h0]
    clear HX3 HV3 h0
    go_wp2_with fail
    refine (alive_any _).mono ?_
    rintro e _ ⟨rfl, rfl⟩
    go_wp2_with fail
    go_ret
    exact ⟨rfl, HFIN.out⟩
  have hk0 : ((k2 : Int) == 0) = false := by simp; omega
  by_cases h1 : n = 0
  · have hn0 : ((n : Int) == 0) = true := by simp [h1]
    clear HX3 HV3 h0 h1
    go_wp2_with fail
    refine (alive_any _).mono ?_
    rintro e _ ⟨rfl, rfl⟩
    go_wp2_with fail
    go_ret
    exact ⟨rfl, HFIN.out⟩
  have hn0 : ((n : Int) == 0) = false := by simp; omega
  by_cases h2 : 40 ≤ n
  · have h2' : (40 : Int) ≤ (n : Int) := by omega
    clear HX3 HV3 h0 h1 h2
    go_wp2_with fail
    refine (alive_any _).mono ?_
    rintro e _ ⟨rfl, rfl⟩
    go_wp2_with fail
    go_ret
    exact ⟨rfl, HFIN.out⟩
  have h2' : ¬ (40 : Int) ≤ (n : Int) := by omega
  have hnp : (0 : Int) < (n : Int) := by omega
  obtain ⟨b, off, rfl, hbB, hcs⟩ := HV3.out (by rw [List.length_map, ← HL.out]; omega)
  have hnl : 0 < ss.length := by rw [← HL.out]; omega
  obtain ⟨s, hs0⟩ : ∃ s, ss[0] = s := ⟨_, rfl⟩
  have cs : (w3.drewN m).cell? ⟨b, off, none⟩ = some (.string s) := by
    have := hcs 0 (.string s) (by rw [List.getElem?_map, List.getElem?_eq_getElem hnl, hs0]; rfl)
    rw [Nat.add_zero] at this
    exact this
  have hsS : s ∈ ss := by rw [← hs0]; exact List.getElem_mem hnl
  have hsm := HS.out s hsS
  have hsz : s.size ≤ 9223372036854775807 := by unfold maxLen at hsm; omega
  by_cases h3 : s.size < 2
  · have h3' : (s.size : Int) < 2 := by omega
    clear HX3 HV3 h0 h1 h2 h3 hcs hs0 hsS
    go_wp2_with fail
    refine (alive_any _).mono ?_
    rintro e _ ⟨rfl, rfl⟩
    go_wp2_with fail
    go_ret
    exact ⟨rfl, HFIN.out⟩
  have h3' : ¬ (s.size : Int) < 2 := by omega
  have hvalid := fun W => nameValid_any (s.extract 1 s.size) W (by simp [ByteArray.size_extract]; unfold maxLen at hsm ⊢; omega)
  rcases hok : nameOk (s.extract 1 s.size).data.toList with _ | _
  · rw [hok] at hvalid
    have HC := hidden hvalid
    clear HX3 HV3 h0 h1 h2 h3 hcs hs0 hsS hvalid hok
    go_wp2_with (go_at_call 13; refine (HC.out _).mono ?_; rintro e w' ⟨rfl, rfl⟩)
    refine (alive_any _).mono ?_
    rintro e _ ⟨rfl, rfl⟩
    go_wp2_with fail
    go_ret
    exact ⟨rfl, HFIN.out⟩
  rw [hok] at hvalid
  have HC := hidden hvalid
  have hokN : namesOk ss = true := by
    rcases hb : namesOk ss with _ | _
    · exfalso; apply h0; rw [HK.out, nameTab_none hb]; rfl
    · rfl
  have HTAB : Hid (nameTab (ss ++ [s.extract 1 s.size]) = nameTab ss) := nameTab_end hokN (by rw [← HL.out]; omega) hsS (tail_ends s) hok
  obtain ⟨W, hW⟩ : ∃ W, w3.drewN m = W := ⟨_, rfl⟩
  have hBW : w1.heap.size ≤ W.heap.size := by rw [← hW]; exact hB3'.out
  have hsW : w3.heap.size = W.heap.size := by rw [← hW]; rfl
  have hbW : b < W.heap.size := by omega
  have hpart : Hid (∀ Z, Below W.heap.size W Z → ∀ i u, (ss.map Value.string)[i]? = some u → Z.cell? ⟨b, off + i, none⟩ = some u) := fun Z hZ i u hi => (hZ.cell hbW).trans (by rw [← hW]; exact hcs i u hi)
  have HXW : Hid (∀ Z, Below W.heap.size W Z → Ints Z .u8 W.heap.size a2 (nameTab ss)) := fun Z hZ => by
    have h1 : Ints W .u8 w2.heap.size a2 (nameTab ss) := by rw [← hW]; exact HX3.out
    have h2 : w2.heap.size ≤ W.heap.size := by have := hx23'.out; omega
    exact (h1.more h2).below hZ
  have hfW : Hid (Below w.heap.size w W) := by show Below _ _ _; rw [← hW]; exact HFIN.out
  rw [hW] at cs ⊢
  have hs2 : 1 ≤ s.size := by omega
  have hone := HS.out
  have h8 : Hid (∀ x ∈ ss ++ [s.extract 1 s.size], x.size ≤ maxLen) := fun x hx => by
    rcases List.mem_append.1 hx with h | h
    · exact hone x h
    · simp only [List.mem_singleton] at h; subst h
      simp [ByteArray.size_extract]; unfold maxLen at hsm ⊢; omega
  have hlm : (ss.map Value.string).length = n := by rw [List.length_map, HL.out]
  obtain ⟨l, hl⟩ : ∃ l, nameTab ss = l := ⟨_, rfl⟩
  rw [hl] at HTAB HXW HK
  have hm2' : c2 ≤ 9223372036854775807 := by unfold maxLen at hm2; omega
  clear hvalid hok hokN hs0 hsS hcs HX3 HV3 hone HFIN hW hB3' hx23' hl
  go_wp2_with (go_at_call 13; refine (HC.out _).mono ?_; rintro e w' ⟨rfl, rfl⟩)
  refine wp_region_typed2_lit (by kernel_rfl) (fun _ Z => Below W.heap.size W Z) (ShortR W.heap.size (shortTys ss (.slice (some ⟨b, off, none⟩) n c) (.slice a2 k2 c2) ⟨b, off, none⟩ s (s.extract 1 s.size)) l) (by kernel_rfl) (fun _ _ h => h) (Below.refl _ _).drew ?_ ?_
  · refine ⟨?_, ?_, ?_, ?_, ?_, ?_, ?_, ?_, ?_, ?_, ?_, ?_, ?_, trivial⟩
    · intro n' a wr D hn hJ hdn hpr hnd ho hp
      have g0 : ¬ D 0 := hnd
      have g2 : ¬ D 2 := fun h => g0 (hdn 2 _ h rfl ⟨0, .data⟩ (by simp) rfl)
      have g8 : ¬ D 8 := fun h => g2 (hdn 8 _ h rfl ⟨2, .data⟩ (by simp) rfl)
      have g9 : ¬ D 9 := fun h => g8 (hdn 9 _ h rfl ⟨8, .data⟩ (by simp) rfl)
      unfold Oper.wp
      simp [go_sem]
      exact After2.mk _ rfl (hJ.alloc hJ.size _) (fun j u hj h => h.keep (by rintro rfl; exact g9 hj.1) (TyB.alloc hJ.size _ _ _)) (.of ⟨wr.heap.size, rfl, hJ.size, Has.new _ _ _⟩ (by decide))
    · intro n' a wr D hn hJ hdn hpr hnd ho hp
      have h := ho 3 (unwritten_dst (by kernel_rfl))
      have h : a.tmps.getD 3 undef = .slice (some ⟨b, off, none⟩) n c := h
      refine wp_move' rfl (After2.mk _ rfl hJ (fun _ _ _ h => h) (.of ?_ (by decide)))
      exact ⟨b, off, c, by rw [hlm]; exact h, hbW, hpart.out wr hJ⟩
    · intro n' a wr D hn hJ hdn hpr hnd ho hp
      have g2 : ¬ D 2 := hnd
      have g8 : ¬ D 8 := fun h => g2 (hdn 8 _ h rfl ⟨2, .data⟩ (by simp) rfl)
      have g9 : ¬ D 9 := fun h => g8 (hdn 9 _ h rfl ⟨8, .data⟩ (by simp) rfl)
      obtain ⟨g, hv, hg, hh⟩ := (hp ⟨0, .data⟩ (by simp) _ 46 rfl rfl rfl).typed (by decide)
      obtain ⟨pb, po, pc, hx, hpb, hpc⟩ := (hp ⟨1, .data⟩ (by simp) _ 47 rfl rfl rfl).typed (by decide)
      have hown : wr.ownsRow W.heap.size 9 1 (.slice (some ⟨g, 0, none⟩) 0 0) 0 ([] : List Value) := ⟨by simp, .inr ⟨g, 0, #[], rfl, hg, hh, Nat.le_refl _, by unfold maxLen; omega, by simp, by simp⟩⟩
      refine wp_append_cells (.tmp 46) (.tmp 47) 27 9 rfl W.heap.size (.string ⟨#[]⟩) 16 Try.info_str Try.underlying27 rfl _ 0 [] hv hown pb po _ pc _ hx rfl hpc (one_strs _) (by rw [hlm]; omega) (by decide) hJ.size (fun v' w' h2 h3 => ?_)
      have h3' : wr.grownBy w' (some g) := h3
      refine After2.mk _ rfl (hJ.grown h3' hJ.size (by intro q hq; injection hq with hq; omega)) (fun j u hj h => h.keep (by rintro rfl; exact g9 hj.1) (TyB.first h3' hg hJ.size hh _ _ ?_)) (.of (by simpa [TypedB, TyB.has, shortTys] using h2) (by decide))
      obtain ⟨hDj, hj⟩ := hj
      match j, hDj, hj with
      | 0, hd, hj => exact (not_needed [2] (by kernel_rfl) ⟨hd, hj⟩ (by simp) (by simp)).elim
      | 2, hd, _ => exact absurd hd g2
      | 8, hd, _ => exact absurd hd g8
      | 1, _, _ | 3, _, _ | 4, _, _ | 5, _, _ | 6, _, _ | 7, _, _ | 9, _, _ | 10, _, _ | 11, _, _ | 12, _, _ => trivial
      | j + 13, _, _ => trivial
    · intro n' a wr D hn hJ hdn hpr hnd ho hp
      have h := ho 3 (unwritten_dst (by kernel_rfl))
      refine wp_move' rfl (After2.mk _ rfl hJ (fun _ _ _ h => h) (.of ?_ (by decide)))
      exact h
    · intro n' a wr D hn hJ hdn hpr hnd ho hp
      have h := (hp ⟨3, .data⟩ (by simp) _ 49 rfl rfl rfl).typed (by decide)
      have h : a.tmps.getD 49 undef = .slice (some ⟨b, off, none⟩) n c := h
      rw [Array.getD_eq_getD_getElem?] at h
      unfold Oper.wp
      have hnN : 0 < n := by omega
      simp [go_sem, h, hnN]
      exact After2.mk _ rfl hJ (fun _ _ _ h => h) (.of rfl (by decide))
    · intro n' a wr D hn hJ hdn hpr hnd ho hp
      have h := (hp ⟨4, .data⟩ (by simp) _ 50 rfl rfl rfl).typed (by decide)
      have h : a.tmps.getD 50 undef = .pointer (some ⟨b, off, none⟩) := h
      rw [Array.getD_eq_getD_getElem?] at h
      have hc : wr.cell? ⟨b, off, none⟩ = some (.string s) := (hJ.cell hbW).trans cs
      unfold Oper.wp
      simp [go_sem, h, hc]
      exact After2.mk _ rfl hJ (fun _ _ _ h => h) (.of rfl (by decide))
    · intro n' a wr D hn hJ hdn hpr hnd ho hp
      have h := (hp ⟨5, .data⟩ (by simp) _ 51 rfl rfl rfl).typed (by decide)
      have h : a.tmps.getD 51 undef = .string s := h
      rw [Array.getD_eq_getD_getElem?] at h
      unfold Oper.wp
      have hs2' : (1 : Int) ≤ (s.size : Int) := by omega
      simp [go_sem, h, hs2']
      exact After2.mk _ rfl hJ (fun _ _ _ h => h) (.of rfl (by decide))
    · intro n' a wr D hn hJ hdn hpr hnd ho hp
      have g7 : ¬ D 7 := hnd
      have g8 : ¬ D 8 := fun h => g7 (hdn 8 _ h rfl ⟨7, .data⟩ (by simp) rfl)
      have g9 : ¬ D 9 := fun h => g8 (hdn 9 _ h rfl ⟨8, .data⟩ (by simp) rfl)
      have h := (hp ⟨6, .data⟩ (by simp) _ 52 rfl rfl rfl).typed (by decide)
      have h : a.tmps.getD 52 undef = .string (s.extract 1 s.size) := h
      rw [Array.getD_eq_getD_getElem?] at h
      unfold Oper.wp
      simp [go_sem, h]
      exact After2.mk _ rfl (hJ.alloc hJ.size _) (fun j u hj h => h.keep (by rintro rfl; exact g9 hj.1) (TyB.alloc hJ.size _ _ _)) (.of ⟨wr.heap.size, rfl, hJ.size, Has.new _ _ _⟩ (by decide))
    · intro n' a wr D hn hJ hdn hpr hnd ho hp
      have g8 : ¬ D 8 := hnd
      have g9 : ¬ D 9 := fun h => g8 (hdn 9 _ h rfl ⟨8, .data⟩ (by simp) rfl)
      have hrow := (hp ⟨2, .data⟩ (by simp) _ 48 rfl rfl rfl).typed (by decide)
      obtain ⟨q, hx, hq, hh⟩ := (hp ⟨7, .data⟩ (by simp) _ 53 rfl rfl rfl).typed (by decide)
      have hr0 : wr.ownsRow W.heap.size 9 1 (a.tmps.getD 48 undef) _ _ := hrow
      refine wp_append_cells (.tmp 48) (.tmp 53) 27 9 rfl W.heap.size (.string ⟨#[]⟩) 16 Try.info_str Try.underlying27 rfl _ _ _ rfl hr0 q 0 1 1 [.string (s.extract 1 s.size)] hx rfl (one_cell hh) (one_strs' _) (by rw [hlm]; omega) (by decide) hJ.size (fun v' w' h2 h3 => ?_)
      have hrb : ∀ g, (a.tmps.getD 48 undef).ownBlock = some g → W.heap.size ≤ g := fun g hg => (hr0.lt g hg).1
      refine After2.mk _ rfl (hJ.grown h3 hJ.size hrb) (fun j u hj h => h.keep (by rintro rfl; exact g9 hj.1) (TyB.next h3 hrb hJ.size _ _ ?_)) (.of (by simpa [TypedB, TyB.has, shortTys] using h2) (by decide))
      obtain ⟨hDj, hj⟩ := hj
      have d2 : D 2 := hpr ⟨2, .data⟩ (by simp) rfl
      match j, hDj, hj with
      | 0, hd, hj => exact (not_needed [2] (by kernel_rfl) ⟨hd, hj⟩ (by simp [d2]) (by simp)).elim
      | 2, hd, hj => exact (not_needed [8] (by kernel_rfl) ⟨hd, hj⟩ (by simp) (by simp)).elim
      | 7, hd, hj => exact (not_needed [8] (by kernel_rfl) ⟨hd, hj⟩ (by simp) (by simp)).elim
      | 8, hd, _ => exact absurd hd g8
      | 1, _, _ | 3, _, _ | 4, _, _ | 5, _, _ | 6, _, _ | 9, _, _ | 10, _, _ | 11, _, _ | 12, _, _ => trivial
      | j + 13, _, _ => trivial
    · intro n' a wr D hn hJ hdn hpr hnd ho hp
      have g9 : ¬ D 9 := hnd
      have hrow := (hp ⟨8, .data⟩ (by simp) _ 54 rfl rfl rfl).typed (by decide)
      have hr0 : wr.ownsRow W.heap.size 9 1 (a.tmps.getD 54 undef) ((ss ++ [s.extract 1 s.size]).map Value.string).length ((ss ++ [s.extract 1 s.size]).map Value.string) := hrow
      obtain ⟨a5, c5, hv5, hc5, hvals⟩ := vals_of_own hr0
      rw [Array.getD_eq_getD_getElem?, List.length_map] at hv5
      have hcall := nameTable_any wr wr.heap.size a5 c5 (ss ++ [s.extract 1 s.size]) hvals (Nat.le_refl _) (by rw [List.length_append, ← HL.out]; simp; omega) h8.out
      rw [HTAB.out] at hcall
      generalize hq : (ss ++ [s.extract 1 s.size]).length = q at hv5 hcall
      unfold Oper.wp
      simp [go_sem, hv5]
      refine hcall.mono ?_
      rintro e w' ⟨a6, c6, rfl, hc6, hm6, hi6, hb6⟩
      exact After2.mk _ rfl (hJ.trans (hb6.mono hJ.size)) (fun j u hj h => h.keep (by rintro rfl; exact g9 hj.1) (TyB.only (only_below hb6) hJ.size _ _)) (show TabT l w' _ from ⟨a6, c6, rfl, hc6, hm6, hi6⟩)
    · intro n' a wr D hn hJ hdn hpr hnd ho hp
      have h := ho 4 (unwritten_dst (by kernel_rfl))
      refine wp_move' rfl (After2.mk _ rfl hJ (fun _ _ _ h => h) (.of ?_ (by decide)))
      exact h
    · intro n' a wr D hn hJ hdn hpr hnd ho hp
      have h9 := hp ⟨9, .data⟩ (by simp) _ 55 rfl rfl rfl
      obtain ⟨a6, c6, hv6, hc6, hm6, hi6⟩ : TabT l wr (a.tmps.getD 55 undef) := h9
      have h10 := (hp ⟨10, .data⟩ (by simp) _ 56 rfl rfl rfl).typed (by decide)
      have h10 : a.tmps.getD 56 undef = .slice a2 k2 c2 := h10
      rw [Array.getD_eq_getD_getElem?] at h10 hv6
      have hcall := sameBytes_yes wr wr.heap.size W.heap.size a6 a2 c6 c2 l hi6 (HXW.out wr hJ) (by unfold maxLen at hm6; omega)
      rw [← HK.out] at hcall hv6
      unfold Oper.wp
      simp [go_sem, h10, hv6]
      refine hcall.mono ?_
      rintro e _ ⟨rfl, m2, rfl⟩
      refine After2.mk _ rfl (below_drewN hJ m2) (fun j u hj h => ?_) (.of rfl (by decide))
      by_cases e9 : j = 9
      · subst e9; exact (show TabT l (wr.drewN m2) u from (show TabT l wr u from h))
      · exact h.keep e9 (TyB.only (only_below (below_drewN (Below.refl _ _) m2)) hJ.size _ _)
    · intro n' a wr D hn hJ hdn hpr hnd ho hp
      have h := (hp ⟨11, .data⟩ (by simp) _ 57 rfl rfl rfl).typed (by decide)
      refine wp_assign' rfl (After2.mk _ rfl hJ (fun _ _ _ h => h) (.of ?_ (by decide)))
      exact h
  · intro a' w' hgo
    have hres := (hgo.done 12 _ 2 rfl rfl (.inl (by kernel_rfl)) rfl).typed (by decide)
    have hd := hgo.defers
    have hsz := hgo.size
    have hbw := hgo.world
    obtain ⟨t, d⟩ := a'
    have hd' : d = [] := hd
    have hres : t.getD 2 undef = .bool true := hres
    have hfin : Hid (Below w.heap.size w w') := hfW.out.trans (hbw.mono hfW.out.size)
    have ht58 := arr_list t 58 hsz
    have hlit : t = #[t.getD 0 undef, t.getD 1 undef, t.getD 2 undef, t.getD 3 undef, t.getD 4 undef, t.getD 5 undef, t.getD 6 undef, t.getD 7 undef, t.getD 8 undef, t.getD 9 undef, t.getD 10 undef, t.getD 11 undef, t.getD 12 undef, t.getD 13 undef, t.getD 14 undef, t.getD 15 undef, t.getD 16 undef, t.getD 17 undef, t.getD 18 undef, t.getD 19 undef, t.getD 20 undef, t.getD 21 undef, t.getD 22 undef, t.getD 23 undef, t.getD 24 undef, t.getD 25 undef, t.getD 26 undef, t.getD 27 undef, t.getD 28 undef, t.getD 29 undef, t.getD 30 undef, t.getD 31 undef, t.getD 32 undef, t.getD 33 undef, t.getD 34 undef, t.getD 35 undef, t.getD 36 undef, t.getD 37 undef, t.getD 38 undef, t.getD 39 undef, t.getD 40 undef, t.getD 41 undef, t.getD 42 undef, t.getD 43 undef, t.getD 44 undef, t.getD 45 undef, t.getD 46 undef, t.getD 47 undef, t.getD 48 undef, t.getD 49 undef, t.getD 50 undef, t.getD 51 undef, t.getD 52 undef, t.getD 53 undef, t.getD 54 undef, t.getD 55 undef, t.getD 56 undef, t.getD 57 undef] := ht58.trans (by rfl)
    rw [hres] at hlit
    have HT := hidden hlit
    clear hres hd hbw hgo ht58 hlit hsz
    subst hd'
    rw [HT.out]
    go_wp2_with fail
    go_ret
    exact ⟨rfl, hfin.out⟩

end Go.Proofs.Ytdaddhliedocaaa

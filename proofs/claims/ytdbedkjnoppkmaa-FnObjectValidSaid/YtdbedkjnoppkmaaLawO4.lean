/-
  The walk of FnObjectValid, over what is wanted of the program.
-/
import Derived.Test.YtdbedkjnoppkmaaDrawOV
import Derived.Test.YtdbedkjnoppkmaaLawO2
import Derived.Test.YtdbedkjnoppkmaaTwice
namespace Go.Proofs.Ytdbedkjnoppkmaa
open Go.RowKit

theorem flatM_one (ms : List Sm) : ∀ u ∈ flatM ms, u.oneCell' = true := fun u hu => by
  unfold flatM at hu
  obtain ⟨m, _, h⟩ := List.mem_flatMap.1 hu
  simp at h
  rcases h with rfl | rfl | rfl | rfl <;> rfl
theorem symsOk_clash (ss : List Sx) (m : Sm) : ∀ (ms d : List Sm), (∃ x ∈ d ++ ms, clash x m = true) → symsOk ss d (ms ++ [m]) = false
  | [], d, ⟨x, hx, hc⟩ => by
    have hx' : x ∈ d := by simpa using hx
    have : d.all (fun x => !clash x m) = false := by
      rw [List.all_eq_false]
      exact ⟨x, hx', by simp [hc]⟩
    simp [symsOk, this]
  | y :: ms, d, ⟨x, hx, hc⟩ => by
    have ih := symsOk_clash ss m ms (d ++ [y]) ⟨x, by simpa using hx, hc⟩
    simp only [List.cons_append, symsOk, ih, Bool.and_false]
theorem objOk_twice (ss : List Sx) (m : Sm) (r : List Sm) (h : m.bind ≠ 0) : objOk ss ((m :: r) ++ [m]) = false := by
  have := symsOk_clash ss m (m :: r) [] ⟨m, by simp, by simp [clash, h]⟩
  unfold objOk
  rw [this]
  simp
set_option maxRecDepth 100000 in
set_option maxHeartbeats 2000000 in
theorem law_ObjectValid (hW : WantObjectValid) (w : World) (a0 : Option Addr) (len cap : Nat) (h : Came w a0 len cap) :
    Calls Try.prog 4 #[.slice a0 len cap] w fun e w' => e = .returned (.bool true) ∧ Below w.heap.size w w' := by
  obtain ⟨l0, h, rfl, hcap, hmax⟩ := h
  by_cases hbig : 1048576 < l0.length
  · have hd : (1048576 : Int) < (l0.length : Int) := by omega
    go_enter Try.func4, Try.ntmps4
    go_wp2
    go_ret
    exact ⟨rfl, Below.refl _ _⟩
  have hd : ¬ (1048576 : Int) < (l0.length : Int) := by omega
  have HD := hidden (drawObjectValid_any w a0 cap l0 h hcap hmax)
  have HW := hidden hW
  obtain ⟨j1, hj, hy0, hy1, hy2⟩ := info_parts Try.info_symbol
  clear h hW
  go_enter Try.func4, Try.ntmps4
  go_wp2_with fail
  refine HD.out.mono ?_
  clear HD
  rintro e w1 ⟨ss, ms, a1, a2, c1, c2, rfl, hl1, hl2, hsm, hmm, hS, hM, ⟨base, hrow⟩, hb1⟩
  have hfs : ∀ y ∈ ss, y.s.fits := fun y hy => (hsm y hy).fits'
  have hfm : ∀ x ∈ ms, x.fits := fun x hx => (hmm x hx).fits
  have HIM : Hid (∀ W, Below w1.heap.size w1 W → Calls Try.prog 15 #[.agg #[.slice a1 ss.length c1, .slice a2 ms.length c2]] W fun e w' => e = .returned (.bool (objOk (ss.map Sp.s) ms)) ∧ Below W.heap.size W w') := fun W hB => HW.out W w1.heap.size a1 a2 c1 c2 ss ms (hS.below hB) (hM.below hB) hB.size (by omega) (by omega) hfs hfm
  have HSP : Hid (∀ W, Below w1.heap.size w1 W → Calls Try.prog 16 #[.agg #[.slice a1 ss.length c1, .slice a2 ms.length c2]] W fun e w' => e = .returned (.bool (objOk (ss.map Sp.s) ms)) ∧ Below W.heap.size W w') := fun W hB => objectValid'_any W w1.heap.size a1 a2 c1 c2 ss.length ms.length ss ms rfl rfl (hS.below hB) (hM.below hB) hB.size (by omega) (by omega) (fun y hy => (hfs y hy).lens) (fun x hx => (hfm x hx).name)
  have HNO : Hid (∀ W, Calls Try.prog 15 #[.agg #[.slice none 0 0, .slice none 0 0]] W fun e w' => e = .returned (.bool true) ∧ Below W.heap.size W w') := fun W => HW.out W W.heap.size none none 0 0 [] [] ⟨fun h => absurd h (by simp), fun y hy => absurd hy (by simp), fun y hy => absurd hy (by simp)⟩ (fun h => absurd h (by simp)) (Nat.le_refl _) (by simp) (by simp) (fun y hy => absurd hy (by simp)) (fun y hy => absurd hy (by simp))
  have HTW : Hid (∀ (W : World) (m : Sm) (r : List Sm) (a3 : Option Addr) (c3 : Nat), ms = m :: r → m.bind ≠ 0 → Below w1.heap.size w1 W → Syms W W.heap.size a3 (ms ++ [m]) → Calls Try.prog 15 #[.agg #[.slice a1 ss.length c1, .slice a3 (ms.length + 1) c3]] W fun e w' => e = .returned (.bool false) ∧ Below W.heap.size W w') := fun W m r a3 c3 e hm hB h3 => by
    have := HW.out W W.heap.size a1 a3 c1 c3 ss (ms ++ [m]) ((hS.below hB).more hB.size) h3 (Nat.le_refl _) (by omega) (by simp; omega) hfs (fun x hx => by
      rcases List.mem_append.1 hx with h | h
      · exact hfm x h
      · simp only [List.mem_singleton] at h; rw [h]; exact hfm m (by rw [e]; simp))
    rw [e, objOk_twice _ _ _ hm, ← e, List.length_append] at this
    exact this
  obtain ⟨ok, hok⟩ : ∃ r, objOk (ss.map Sp.s) ms = r := ⟨_, rfl⟩
  rw [hok] at HIM HSP
  have hB0 : Below w.heap.size w (w1.alloc (.cells #[.slice a1 ss.length c1, .slice a2 ms.length c2] 33)) := hb1.alloc hb1.size _
  have hC0 : Below w1.heap.size w1 (w1.alloc (.cells #[.slice a1 ss.length c1, .slice a2 ms.length c2] 33)) := (Below.refl _ _).alloc (Nat.le_refl _) _
  have hx0 : Has (w1.alloc (.cells #[.slice a1 ss.length c1, .slice a2 ms.length c2] 33)) w1.heap.size 33 #[.slice a1 ss.length c1, .slice a2 ms.length c2] := Has.new _ _ _
  obtain ⟨ns, hns⟩ : ∃ n, n = ss.length := ⟨_, rfl⟩
  rw [← hns] at HIM HSP HTW hB0 hC0 hx0 ⊢
  have HROW := hidden hrow
  have HM := hidden hM
  have HB1 := hidden hb1
  clear hS hns hok hsm hfs hfm hmm HW hrow hM hb1
  go_wp2_with fail
  refine (HIM.out _ hC0).mono ?_
  clear HIM
  rintro e w2 ⟨rfl, hb2⟩
  have hB2 := hB0.trans (hb2.mono hB0.size)
  have hC2 := hC0.trans (hb2.mono hC0.size)
  have hx2 := hx0.below hb2 hx0.lt
  have x0 : w2.cell? ⟨w1.heap.size, 0, none⟩ = some (.slice a1 ns c1) := hx2.cell 0
  have x1 : w2.cell? ⟨w1.heap.size, 1, none⟩ = some (.slice a2 ms.length c2) := hx2.cell 1
  have HX2 := hidden hx2
  clear hx0 hx2 hB0 hC0 hb2
  go_wp2_with fail
  refine (HSP.out w2 hC2).mono ?_
  clear HSP x0 x1
  rintro e w3 ⟨rfl, hb3⟩
  have hB3 := hidden (hB2.trans (hb3.mono hB2.size))
  have hC3 := hidden (hC2.trans (hb3.mono hC2.size))
  have HX3 := hidden (HX2.out.below hb3 HX2.out.lt)
  have x0 : w3.cell? ⟨w1.heap.size, 0, none⟩ = some (.slice a1 ns c1) := HX3.out.cell 0
  have x1 : w3.cell? ⟨w1.heap.size, 1, none⟩ = some (.slice a2 ms.length c2) := HX3.out.cell 1
  have hrr : (ok != ok) = false := by simp
  clear HX2 hb3 hB2 hC2
  obtain ⟨nm, hnm⟩ : ∃ n, n = ms.length := ⟨_, rfl⟩
  have HNM := hidden hnm
  rw [← hnm] at x1 HX3 HTW HROW
  rcases ok with _ | _
  · clear hnm
    go_wp2_with fail
    refine (HNO.out w3).mono ?_
    rintro e w4 ⟨rfl, hb4⟩
    have hB4 := hB3.out.trans (hb4.mono hB3.out.size)
    clear hB3 hC3 HX3 HNO HTW hb4 HM HROW HB1
    go_wp2_with (go_at_call 13; refine (alive_any _).mono ?_; rintro e _ ⟨rfl, rfl⟩)
    go_ret
    exact ⟨rfl, hB4⟩
  by_cases hm0 : nm = 0
  · have hz : ((nm : Int) == 0) = true := by simp [hm0]
    clear hnm hm0
    go_wp2_with fail
    refine (HNO.out w3).mono ?_
    rintro e w4 ⟨rfl, hb4⟩
    have hB4 := hB3.out.trans (hb4.mono hB3.out.size)
    clear hB3 hC3 HX3 HNO HTW hb4 HM HROW HB1
    go_wp2_with (go_at_call 13; refine (alive_any _).mono ?_; rintro e _ ⟨rfl, rfl⟩)
    go_ret
    exact ⟨rfl, hB4⟩
  have hz : ((nm : Int) == 0) = false := by simp [hm0]
  obtain ⟨m, r, hmr⟩ : ∃ m r, ms = m :: r := by
    cases ms with
    | nil => exact absurd hnm hm0
    | cons m r => exact ⟨m, r, rfl⟩
  obtain ⟨g, hg⟩ : ∃ g, a2 = some ⟨g, 0, none⟩ := by
    rcases HROW.out.2 with ⟨_, h0⟩ | ⟨k, _, _, e, _⟩
    · exact absurd h0 hm0
    · injection e with e; exact ⟨k, e⟩
  subst hg
  have hnl : Hid (0 < nm) := Nat.pos_of_ne_zero hm0
  have hlt0 : (0 : Int) < (nm : Int) := by have := hnl.out; omega
  have HCS : Hid (∀ (W : World) (j : Nat) (u : Value), Below w1.heap.size w1 W → (flatM ms)[j]? = some u → W.cell? ⟨g, j, none⟩ = some u) := fun W j u hB hu => by
    have h1 := HROW.out.cells rfl j u hu
    have h2 := (HROW.out.lt g rfl).2
    rw [addr_row] at h1
    exact (hB.cell (p := ⟨g, j, none⟩) h2).trans h1
  obtain ⟨mn, mb, ml, mv⟩ := m
  have e1 : w3.cell? ⟨g, 1, none⟩ = some (.int .i64 mb) := HCS.out w3 1 _ hC3.out (by rw [hmr]; rfl)
  by_cases hmb : mb = 0
  · have hmz : (mb == 0) = true := by simp [hmb]
    clear hnm hm0 hmb
    go_wp2_with fail
    refine (HNO.out w3).mono ?_
    rintro e w4 ⟨rfl, hb4⟩
    have hB4 := hB3.out.trans (hb4.mono hB3.out.size)
    clear hB3 hC3 HX3 HNO HTW hb4 HM HROW HB1 HCS
    go_wp2_with (go_at_call 13; refine (alive_any _).mono ?_; rintro e _ ⟨rfl, rfl⟩)
    go_ret
    exact ⟨rfl, hB4⟩
  have hmz : (mb == 0) = false := by simp [hmb]
  have HMR := hidden hmr
  have hnm20 : nm ≤ 20 := by omega
  clear hm0 hnm hmr
  go_upto_region 9 with fail
  refine wp_region_vals_lit (by kernel_rfl) (JTw w3 w1.heap.size g nm (.slice a1 ns c1) (.slice (some ⟨g, 0, none⟩) nm c2) (flatM ms) [.string mn, .int .i64 mb, .int .i64 ml, .int .i64 mv]) (by kernel_rfl) ⟨fun _ => undef, ⟨(Below.refl _ _).drew, fun h => h.elim, fun h => h.elim, fun h => h.elim, fun h => h.elim, fun h => h.elim, fun h => h.elim, fun h => h.elim, fun h => h.elim, fun h => h.elim, fun h _ => h.elim, fun h _ => h.elim, fun h _ => h.elim, fun h => h.elim, fun h _ => h.elim, fun h => h.elim⟩⟩ ?_ ?_
  · refine ⟨?_, ?_, ?_, ?_, ?_, ?_, ?_, ?_, ?_, ?_, ?_, ?_, ?_, ?_, ?_, trivial⟩
    · intro a wr D vals hJ hdn hpr hnd ho hp
      have h := ho 3 (unwritten_dst (by kernel_rfl))
      have h : a.tmps.getD 3 undef = .pointer (some ⟨w1.heap.size, 0, none⟩) := h
      rw [Array.getD_eq_getD_getElem?] at h
      unfold Oper.wp
      simp [go_sem, h]
      exact After4.mk _ rfl (hJ.o0 rfl)
    · intro a wr D vals hJ hdn hpr hnd ho hp
      have h := (hp ⟨0, .data⟩ (by simp) _ 38 rfl rfl rfl).trans (hJ.p0 (hpr ⟨0, .data⟩ (by simp) rfl))
      rw [Array.getD_eq_getD_getElem?] at h
      have hc : wr.cell? ⟨w1.heap.size, 0, none⟩ = _ := (hJ.below.cell HX3.out.lt).trans x0
      unfold Oper.wp
      simp [go_sem, h, hc]
      exact After4.mk _ rfl (hJ.o1 rfl)
    · intro a wr D vals hJ hdn hpr hnd ho hp
      have g5 : ¬ D 5 := fun h => hnd (hdn 5 _ h rfl ⟨2, .data⟩ (by simp) rfl)
      unfold Oper.wp
      simp [go_sem]
      exact After4.mk _ rfl ((hJ.alloc _).o2 g5 ⟨_, rfl, hJ.below.size, Has.new _ _ _⟩)
    · intro a wr D vals hJ hdn hpr hnd ho hp
      have h := ho 3 (unwritten_dst (by kernel_rfl))
      have h : a.tmps.getD 3 undef = .pointer (some ⟨w1.heap.size, 0, none⟩) := h
      rw [Array.getD_eq_getD_getElem?] at h
      unfold Oper.wp
      simp [go_sem, h]
      exact After4.mk _ rfl (hJ.o3 rfl)
    · intro a wr D vals hJ hdn hpr hnd ho hp
      have h := (hp ⟨3, .data⟩ (by simp) _ 41 rfl rfl rfl).trans (hJ.p3 (hpr ⟨3, .data⟩ (by simp) rfl))
      rw [Array.getD_eq_getD_getElem?] at h
      have hc : wr.cell? ⟨w1.heap.size, 1, none⟩ = _ := (hJ.below.cell HX3.out.lt).trans x1
      unfold Oper.wp
      simp [go_sem, h, hc]
      exact After4.mk _ rfl (hJ.o4 rfl)
    · intro a wr D vals hJ hdn hpr hnd ho hp
      have g11 : ¬ D 11 := fun h => hnd (hdn 11 _ h rfl ⟨5, .data⟩ (by simp) rfl)
      have g12 : ¬ D 12 := fun h => g11 (hdn 12 _ h rfl ⟨11, .data⟩ (by simp) rfl)
      have g14 : ¬ D 14 := fun h => g12 (hdn 14 _ h rfl ⟨12, .data⟩ (by simp) rfl)
      obtain ⟨k, hv, hk, hh⟩ := hJ.e (hpr ⟨2, .data⟩ (by simp) rfl) hnd
      have hs := (hp ⟨2, .data⟩ (by simp) _ 40 rfl rfl rfl).trans hv
      have hx := (hp ⟨4, .data⟩ (by simp) _ 42 rfl rfl rfl).trans (hJ.v4 (hpr ⟨4, .data⟩ (by simp) rfl))
      have hown : wr.ownsRow w3.heap.size 24 4 (.slice (some ⟨k, 0, none⟩) 0 0) 0 ([] : List Value) := ⟨by simp, .inr ⟨k, 0, #[], rfl, hk, hh, Nat.le_refl _, by unfold maxLen; omega, by simp, by simp⟩⟩
      have hBr := hC3.out.trans (hJ.below.mono hC3.out.size)
      refine wp_append_own wr (.tmp 40) (.tmp 42) 31 rfl w3.heap.size 24 j1 (.agg #[.string ⟨#[]⟩, .int .i64 0, .int .i64 0, .int .i64 0]) 4 40 Try.underlying31 hj hy0 hy1 hy2 rfl (by decide) _ 0 [] hs hown ⟨g, 0, none⟩ nm c2 (flatM ms) hx (by rw [flatM_length, ← HNM.out]) (fun j u hu => by rw [addr_row]; exact HCS.out wr j u hBr hu) (flatM_one ms) (by unfold maxLen; omega) (by omega) hJ.below.size (fun v' w' h2 h3 _ => ?_)
      have h3' : wr.grownBy w' (some k) := h3
      have h2' : w'.ownsRow w3.heap.size 24 4 v' nm (flatM ms) := by simpa using h2
      exact After4.mk _ rfl (hJ.o5 g11 g12 g14 hk hh (by simp) h2' h3')
    · intro a wr D vals hJ hdn hpr hnd ho hp
      have h := ho 3 (unwritten_dst (by kernel_rfl))
      have h : a.tmps.getD 3 undef = .pointer (some ⟨w1.heap.size, 0, none⟩) := h
      rw [Array.getD_eq_getD_getElem?] at h
      unfold Oper.wp
      simp [go_sem, h]
      exact After4.mk _ rfl (hJ.o6 rfl)
    · intro a wr D vals hJ hdn hpr hnd ho hp
      have h := (hp ⟨6, .data⟩ (by simp) _ 44 rfl rfl rfl).trans (hJ.p6 (hpr ⟨6, .data⟩ (by simp) rfl))
      rw [Array.getD_eq_getD_getElem?] at h
      have hc : wr.cell? ⟨w1.heap.size, 1, none⟩ = _ := (hJ.below.cell HX3.out.lt).trans x1
      unfold Oper.wp
      simp [go_sem, h, hc]
      exact After4.mk _ rfl (hJ.o7 rfl)
    · intro a wr D vals hJ hdn hpr hnd ho hp
      have h := (hp ⟨7, .data⟩ (by simp) _ 45 rfl rfl rfl).trans (hJ.v7 (hpr ⟨7, .data⟩ (by simp) rfl))
      rw [Array.getD_eq_getD_getElem?] at h
      unfold Oper.wp
      have hnN := hnl.out
      simp [go_sem, h, hnN]
      exact After4.mk _ rfl (hJ.o8 rfl)
    · intro a wr D vals hJ hdn hpr hnd ho hp
      have h := (hp ⟨8, .data⟩ (by simp) _ 46 rfl rfl rfl).trans (hJ.p8 (hpr ⟨8, .data⟩ (by simp) rfl))
      rw [Array.getD_eq_getD_getElem?] at h
      have hBr := hC3.out.trans (hJ.below.mono hC3.out.size)
      have k0 : wr.cell? ⟨g, 0, none⟩ = some (.string mn) := HCS.out wr 0 _ hBr (by rw [HMR.out]; rfl)
      have k1 : wr.cell? ⟨g, 1, none⟩ = some (.int .i64 mb) := HCS.out wr 1 _ hBr (by rw [HMR.out]; rfl)
      have k2 : wr.cell? ⟨g, 2, none⟩ = some (.int .i64 ml) := HCS.out wr 2 _ hBr (by rw [HMR.out]; rfl)
      have k3 : wr.cell? ⟨g, 3, none⟩ = some (.int .i64 mv) := HCS.out wr 3 _ hBr (by rw [HMR.out]; rfl)
      unfold Oper.wp
      simp [go_sem, h, k0, k1, k2, k3]
      exact After4.mk _ rfl (hJ.o9 rfl)
    · intro a wr D vals hJ hdn hpr hnd ho hp
      have h := (hp ⟨9, .data⟩ (by simp) _ 47 rfl rfl rfl).trans (hJ.x9 (hpr ⟨9, .data⟩ (by simp) rfl))
      have h : a.tmps.getD 47 undef = .agg #[.string mn, .int .i64 mb, .int .i64 ml, .int .i64 mv] := h
      rw [Array.getD_eq_getD_getElem?] at h
      unfold Oper.wp
      simp [go_sem, h]
      exact After4.mk _ rfl ((hJ.alloc _).o10 ⟨_, rfl, hJ.below.size, Has.new _ _ _⟩)
    · intro a wr D vals hJ hdn hpr hnd ho hp
      have g12 : ¬ D 12 := fun h => hnd (hdn 12 _ h rfl ⟨11, .data⟩ (by simp) rfl)
      have g14 : ¬ D 14 := fun h => g12 (hdn 14 _ h rfl ⟨12, .data⟩ (by simp) rfl)
      have d5 : D 5 := hpr ⟨5, .data⟩ (by simp) rfl
      obtain ⟨k, hv, hk, hh⟩ := hJ.u (hpr ⟨10, .data⟩ (by simp) rfl) hnd
      have hx := (hp ⟨10, .data⟩ (by simp) _ 48 rfl rfl rfl).trans hv
      refine wp_append_own wr (.tmp 43) (.tmp 48) 31 rfl w3.heap.size 24 j1 (.agg #[.string ⟨#[]⟩, .int .i64 0, .int .i64 0, .int .i64 0]) 4 40 Try.underlying31 hj hy0 hy1 hy2 rfl (by decide) (vals 5) nm (flatM ms) (hp ⟨5, .data⟩ (by simp) _ 43 rfl rfl rfl) (hJ.r d5 hnd) ⟨k, 0, none⟩ 1 1 [.string mn, .int .i64 mb, .int .i64 ml, .int .i64 mv] hx rfl (fun t u ht => by rw [addr_row, hh.cell t]; simpa using ht) (by intro u hu; simp at hu; rcases hu with rfl | rfl | rfl | rfl <;> rfl) (by unfold maxLen; omega) (by omega) hJ.below.size (fun v' w' h2 h3 _ => ?_)
      exact After4.mk _ rfl (hJ.o11 d5 hnd g12 g14 h2 h3)
    · intro a wr D vals hJ hdn hpr hnd ho hp
      have h := (hp ⟨1, .data⟩ (by simp) _ 39 rfl rfl rfl).trans (hJ.s1 (hpr ⟨1, .data⟩ (by simp) rfl))
      have h' := hp ⟨11, .data⟩ (by simp) _ 49 rfl rfl rfl
      obtain ⟨b2, d2, hv⟩ := own_val (hJ.s (hpr ⟨11, .data⟩ (by simp) rfl))
      rw [Array.getD_eq_getD_getElem?] at h h'
      unfold Oper.wp
      simp [go_sem, h, h', hv]
      exact After4.mk _ rfl (hJ.o12 (by rw [hv]))
    · intro a wr D vals hJ hdn hpr hnd ho hp
      have g14 : ¬ D 14 := fun h => hnd (hdn 14 _ h rfl ⟨13, .data⟩ (by simp) rfl)
      unfold Oper.wp
      simp [go_sem]
      exact After4.mk _ rfl ((hJ.alloc _).o13 g14 ⟨_, rfl, hJ.below.size, Has.new _ _ _⟩)
    · intro a wr D vals hJ hdn hpr hnd ho hp
      have d13 : D 13 := hpr ⟨13, .data⟩ (by simp) rfl
      have d12 : D 12 := hpr ⟨12, .data⟩ (by simp) rfl
      have d11 : D 11 := hdn 12 _ d12 rfl ⟨11, .data⟩ (by simp) rfl
      have d5 : D 5 := hdn 11 _ d11 rfl ⟨5, .data⟩ (by simp) rfl
      have d2 : D 2 := hdn 5 _ d5 rfl ⟨2, .data⟩ (by simp) rfl
      obtain ⟨p, hv, hpp, hb⟩ := hJ.b d13 hnd
      obtain ⟨b2, d2', hv2⟩ := own_val (hJ.s d11)
      have h := (hp ⟨13, .data⟩ (by simp) _ 5 rfl rfl rfl).trans hv
      have h' := (hp ⟨12, .data⟩ (by simp) _ 50 rfl rfl rfl).trans (hJ.a12 d12)
      rw [hv2] at h'
      rw [Array.getD_eq_getD_getElem?] at h h'
      have k0 := hb.cell 0
      have k1 := hb.cell 1
      have k2 := hb.free 0
      have k3 := hb.free 1
      have hf : Has ((wr.setCell ⟨p, 0, none⟩ (.slice a1 ns c1)).setCell ⟨p, 1, none⟩ (.slice b2 (nm + 1) d2')) p 33 #[.slice a1 ns c1, vals 11] := by rw [hv2]; exact (hb.put 0 _).put 1 _
      have hg := only_trans (only_put' (w := wr) (g := p) 0 (.slice a1 ns c1)) (only_put' 1 (.slice b2 (nm + 1) d2'))
      unfold Oper.wp
      simp [go_sem, h, h', k0, k1, k2, k3]
      exact After4.mk undef rfl (hJ.o14 d2 d5 d11 d13 hnd hv hf hg)
  · intro a' w' vals hgo
    have hJ := hgo.world
    have h5 := hgo.done 13 _ 5 rfl rfl rfl
    have hd := hgo.defers
    have hsz := hgo.size
    obtain ⟨p, hv, hpp, hf⟩ := hJ.f (by rfl)
    have hrow := hJ.s (by rfl)
    obtain ⟨b2, d2, hv2⟩ := own_val hrow
    rw [hv2] at hf hrow
    obtain ⟨t, d⟩ := a'
    have hd' : d = [] := hd
    have h5 : t.getD 5 undef = .pointer (some ⟨p, 0, none⟩) := h5.trans hv
    have hB5 : Below w1.heap.size w1 w' := hC3.out.trans (hJ.below.mono hC3.out.size)
    have hfin : Hid (Below w.heap.size w w') := hB3.out.trans (hJ.below.mono hB3.out.size)
    have hlen : nm + 1 = (ms ++ [(⟨mn, mb, ml, mv⟩ : Sm)]).length := by rw [List.length_append, ← HNM.out]; rfl
    have hsy : Syms w' w'.heap.size b2 (ms ++ [⟨mn, mb, ml, mv⟩]) := by
      refine syms_of_own (base := w3.heap.size) (c := d2) ?_
      rw [flatM_snoc, ← hlen]
      exact hrow
    have HC := hidden (HTW.out w' ⟨mn, mb, ml, mv⟩ r b2 d2 HMR.out hmb hB5 hsy)
    have ht := arr_list t 54 hsz
    have hlit : t = #[t.getD 0 undef, t.getD 1 undef, t.getD 2 undef, t.getD 3 undef, t.getD 4 undef, t.getD 5 undef, t.getD 6 undef, t.getD 7 undef, t.getD 8 undef, t.getD 9 undef, t.getD 10 undef, t.getD 11 undef, t.getD 12 undef, t.getD 13 undef, t.getD 14 undef, t.getD 15 undef, t.getD 16 undef, t.getD 17 undef, t.getD 18 undef, t.getD 19 undef, t.getD 20 undef, t.getD 21 undef, t.getD 22 undef, t.getD 23 undef, t.getD 24 undef, t.getD 25 undef, t.getD 26 undef, t.getD 27 undef, t.getD 28 undef, t.getD 29 undef, t.getD 30 undef, t.getD 31 undef, t.getD 32 undef, t.getD 33 undef, t.getD 34 undef, t.getD 35 undef, t.getD 36 undef, t.getD 37 undef, t.getD 38 undef, t.getD 39 undef, t.getD 40 undef, t.getD 41 undef, t.getD 42 undef, t.getD 43 undef, t.getD 44 undef, t.getD 45 undef, t.getD 46 undef, t.getD 47 undef, t.getD 48 undef, t.getD 49 undef, t.getD 50 undef, t.getD 51 undef, t.getD 52 undef, t.getD 53 undef] := ht
    rw [h5] at hlit
    have HT := hidden hlit
    have z0 := hf.cell 0
    have z1 := hf.cell 1
    clear h5 hd hgo ht hlit hsz hJ hrow hv hv2 hsy hB5 hf hpp hlen x0 x1 e1 hB3 hC3 HX3 HNO HTW HM HROW HB1 HCS hmb hmz hlt0
    subst hd'
    rw [HT.out]
    go_wp2_with fail
    refine HC.out.mono ?_
    rintro e w6 ⟨rfl, hb6⟩
    have hF := hfin.out.trans (hb6.mono hfin.out.size)
    go_wp2_with fail
    go_ret
    exact ⟨rfl, hF⟩

end Go.Proofs.Ytdbedkjnoppkmaa

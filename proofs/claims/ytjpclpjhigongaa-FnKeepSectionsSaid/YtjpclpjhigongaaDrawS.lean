/-
  spec.DrawKeepSections: an object that was drawn, and numbers.
-/
import Derived.Test.YtjpclpjhigongaaDrawK
import Derived.Test.YtjpclpjhigongaaRegX
import Derived.Test.YtjpclpjhigongaaRchS
import Derived.Test.YtjpclpjhigongaaWantS
import Derived.Test.YtjpclpjhigongaaSamE
import Derived.Deep.RegionWith
namespace Go.Proofs.Ytjpclpjhigongaa
open Go.RowKit

/-- An object and numbers that were drawn. -/
def GotI (w : World) (e : Ending) (w' : World) : Prop := ∃ (ss : List Sp) (ms : List Sm) (Q : List Int) (a1 a2 ka : Option Addr) (c1 c2 kc : Nat), e = .returned (.tuple #[.agg #[.slice a1 ss.length c1, .slice a2 ms.length c2], .slice ka Q.length kc]) ∧ ss.length ≤ 8 ∧ ms.length ≤ 20 ∧ (∀ y ∈ ss, y.s.small) ∧ (∀ m ∈ ms, m.small) ∧ Sects w' w'.heap.size a1 ss ∧ Syms w' w'.heap.size a2 ms ∧ Vals w' w'.heap.size ka (Q.map (Value.int .i64)) ∧ Q.length ≤ 8 ∧ Below w.heap.size w w'
theorem ints_vals {W : World} {lo n c : Nat} {a : Option Addr} {Q : List Int} (h : W.ownsRow lo 3 1 (.slice a n c) n (Q.map (Value.int .i64))) (hn : n = Q.length) : Vals W W.heap.size a (Q.map (Value.int .i64)) := by
  subst hn
  obtain ⟨a', c', e', _, hv⟩ := vals_of_own (by rw [List.length_map]; exact h)
  rw [List.length_map] at e'
  injection e' with e1
  subst e1
  exact hv
theorem gotI_mk {w W : World} {lo lo' b ns nm nk : Nat} {a1 a2 ka : Option Addr} {c1 c2 kc : Nat} {ss : List Sp} {ms : List Sm} {Q : List Int} (hns : ss.length = ns) (hnm : ms.length = nm) (hnk : Q.length = nk) (h1 : ns ≤ 8) (h2 : nm ≤ 20) (hm : ∀ m ∈ ms, m.small)
    (hS : SL W lo (.slice a1 ns c1) ss) (hM : W.ownsRow lo' 59 4 (.slice a2 nm c2) nm (flatM ms)) (hQ : W.ownsRow b 3 1 (.slice ka nk kc) nk (Q.map (Value.int .i64))) (hk : nk ≤ 8) (hb : Below w.heap.size w W) :
    GotI w (.returned (.tuple #[.agg #[.slice a1 ns c1, .slice a2 nm c2], .slice ka nk kc])) W := by
  subst hns
  subst hnm
  subst hnk
  exact ⟨ss, ms, Q, a1, a2, ka, c1, c2, kc, rfl, h1, h2, hS.small, hm, hS.sects, syms_of_own hM, ints_vals hQ rfl, hk, hb⟩
theorem reachA_eight (K : List ByteArray) (ss : List Sx) (ms : List Sm) : (reachA K ss ms).length ≤ 8 := by
  unfold reachA
  split
  · rename_i hok
    have hl := (objOk_parts hok).1
    have h1 := numsM_le 0 (reachB K ss ms)
    rw [reachB_length] at h1
    omega
  · simp
theorem names_few (p : Sm → Bool) (ss : List Sx) (ms : List Sm) : (namesIf p ss ms).length ≤ ms.length := by
  unfold namesIf
  split
  · exact Nat.le_trans (namesOf_length p ms []) (by simp)
  · simp
/-- Around what the object gives and what that reaches, and the store of the object. -/
structure JE (W0 : World) (g0 q5 : Nat) (o1 o2 : Value) (S : List ByteArray) (nS : Nat) (R : List Int) (N k : Nat) (f : Bool) (Z : World) (vals : Nat → Value) : Prop where
  only : W0.grownBy Z (some g0)
  obj : Has Z q5 26 #[o1, o2]
  res : Has Z g0 26 (if f then #[o1, o2] else #[.slice none 0 0, .slice none 0 0])
  names : k = 1 → ∃ a c, vals 0 = .slice a nS c ∧ Vals Z Z.heap.size a (S.map Value.string)
  nums : 2 ≤ k → ∃ a c, vals 1 = .slice a N c ∧ Z.ownsRow W0.heap.size 3 1 (.slice a N c) N (R.map (Value.int .i64))
  last : k = 3 → vals 2 = vals 1
section
variable {W0 Z Z' : World} {g0 q5 : Nat} {o1 o2 : Value} {S : List ByteArray} {nS : Nat} {R : List Int} {N k : Nat} {f : Bool} {vals : Nat → Value}
theorem JE.c0 (h : JE W0 g0 q5 o1 o2 S nS R N 0 f Z vals) {a : Option Addr} {c : Nat} (hb : Below Z.heap.size Z Z') (hv : Vals Z' Z'.heap.size a (S.map Value.string)) : JE W0 g0 q5 o1 o2 S nS R N 1 f Z' (upd vals 0 (.slice a nS c)) :=
  ⟨only_own h.only (grown_only hb) (fun q hq => by cases hq), h.obj.below hb h.obj.lt, h.res.below hb h.res.lt, fun _ => ⟨a, c, rfl, hv⟩, (fun e => absurd e (by decide)), (fun e => by cases e)⟩
theorem JE.c1 (h : JE W0 g0 q5 o1 o2 S nS R N 1 f Z vals) {a : Option Addr} {c : Nat} (hb : Below Z.heap.size Z Z') (hr : Z'.ownsRow Z.heap.size 3 1 (.slice a N c) N (R.map (Value.int .i64))) : JE W0 g0 q5 o1 o2 S nS R N 2 f Z' (upd vals 1 (.slice a N c)) :=
  ⟨only_own h.only (grown_only hb) (fun q hq => by cases hq), h.obj.below hb h.obj.lt, h.res.below hb h.res.lt, (fun e => by cases e), fun _ => ⟨a, c, rfl, row_lower hr h.only.size⟩, (fun e => by cases e)⟩
theorem JE.c2 (h : JE W0 g0 q5 o1 o2 S nS R N 2 f Z vals) {v : Value} (hv : v = vals 1) : JE W0 g0 q5 o1 o2 S nS R N 3 f Z (upd vals 2 v) :=
  ⟨h.only, h.obj, h.res, (fun e => by cases e), fun _ => h.nums (by decide), fun _ => hv⟩
theorem JE.fr (h : JE W0 g0 q5 o1 o2 S nS R N k false Z vals) (hg : g0 < W0.heap.size) (hq : q5 ≠ g0) (u : Value) : JE W0 g0 q5 o1 o2 S nS R N k true ((Z.setCell ⟨g0, 0, none⟩ o1).setCell ⟨g0, 1, none⟩ o2) (upd vals 3 u) := by
  have G : Z.grownBy ((Z.setCell ⟨g0, 0, none⟩ o1).setCell ⟨g0, 1, none⟩ o2) (some g0) := only_trans (only_put' 0 _) (only_put' 1 _)
  refine ⟨only_trans h.only G, h.obj.grown G (by intro e; injection e with e; exact hq e), (h.res.put 0 o1).put 1 o2, fun e => ?_, fun e => ?_, h.last⟩
  · obtain ⟨a, c, e1, hv⟩ := h.names e
    refine ⟨a, c, e1, fun hn => ?_⟩
    obtain ⟨b, off, e2, hb, hc⟩ := hv hn
    have hne : b ≠ g0 := fun e3 => by
      subst e3
      obtain ⟨s, hs⟩ : ∃ s, S[0]? = some s := ⟨_, List.getElem?_eq_getElem (by simpa using hn)⟩
      have h0 := hc 0 (.string s) (by rw [List.getElem?_map, hs]; rfl)
      have h1 := h.res.cell (off + 0)
      rw [h0] at h1
      simp only [Bool.false_eq_true, if_false] at h1
      match off, h1 with
      | 0, h1 => simp at h1
      | 1, h1 => simp at h1
      | j + 2, h1 => simp at h1
    exact ⟨b, off, e2, by simpa using hb, fun i u hi => World.grownBy.cell G (hc i u hi) (fun e3 => hne (by injection e3))⟩
  · obtain ⟨a, c, e1, hr⟩ := h.nums e
    exact ⟨a, c, e1, hr.kept G (row_high hr hg)⟩
end
set_option maxRecDepth 100000 in
set_option maxHeartbeats 8000000 in
theorem drawKeepSections_any (w : World) (a : Option Addr) (cap : Nat) (l : List Int) (h : Ints w .u8 w.heap.size a l) (hcap : l.length ≤ cap) (hlen : cap ≤ 9223372036854775807) :
    Calls Try.prog 5 #[.slice a l.length cap] w (GotI w) := by
  obtain ⟨i0, hi, hz0, hz1, hz2⟩ := info_parts Try.info_int
  go_enter Try.func5, Try.ntmps5
  go_wp2_with fail
  refine (l20Open_any (w.alloc (.cells #[.slice none 0 0, .slice none 0 0] 26)) a cap l ((h.alloc (Nat.le_refl _) _).more (by simp)) hcap hlen).mono ?_
  rintro e w1 ⟨rfl, hr1, hb1⟩
  clear h
  have s0 : (w.alloc (.cells #[.slice none 0 0, .slice none 0 0] 26)).heap.size = w.heap.size + 1 := by simp
  rw [s0] at hr1 hb1
  rw [s0]
  have hres1 : Has w1 w.heap.size 26 #[.slice none 0 0, .slice none 0 0] := (Has.new w _ _).below hb1 (by omega)
  have hbw1 : Below w.heap.size w w1 := ((Below.refl _ _).alloc (Nat.le_refl _) _).trans (hb1.mono (by omega))
  have HX := hidden (l20Object_any w1 (w.heap.size + 1) (w.heap.size + 1) 0 9 hr1 (by omega) (by omega) (by omega))
  have hlt := hr1.lt
  clear hb1 s0 hr1
  go_wp2_with fail
  refine HX.out.mono ?_
  clear HX
  rintro e w5 ⟨a1, a2, c1, c2, ss, ms, rfl, h1, h2, hS, hM, hs, hr5, hg5⟩
  have hres5 : Has w5 w.heap.size 26 #[.slice none 0 0, .slice none 0 0] := hres1.grown hg5 (by simp)
  have hbw5 : Below w.heap.size w w5 := hbw1.grown hg5 hbw1.size (by intro q hq; injection hq with hq; omega)
  have hs15 := hg5.size
  obtain ⟨ns, hns⟩ : ∃ q, ss.length = q := ⟨_, rfl⟩
  obtain ⟨nm, hnm⟩ : ∃ q, ms.length = q := ⟨_, rfl⟩
  rw [hns] at h1 hS
  rw [hnm] at h2 hM
  rw [hns, hnm]
  have hx6 : Has (w5.alloc (.cells #[.slice a1 ns c1, .slice a2 nm c2] 26)) w5.heap.size 26 #[.slice a1 ns c1, .slice a2 nm c2] := Has.new _ _ _
  have hres6 := hres5.alloc (.cells #[.slice a1 ns c1, .slice a2 nm c2] 26)
  have hS6 := hS.alloc (.cells #[.slice a1 ns c1, .slice a2 nm c2] 26)
  have hM6 := hM.alloc (.cells #[.slice a1 ns c1, .slice a2 nm c2] 26)
  have hr6 := hr5.alloc (.cells #[.slice a1 ns c1, .slice a2 nm c2] 26)
  have hbw6 := hbw5.alloc hbw5.size (.cells #[.slice a1 ns c1, .slice a2 nm c2] 26)
  have hsz6 : w1.heap.size + 2 ≤ (w5.alloc (.cells #[.slice a1 ns c1, .slice a2 nm c2] 26)).heap.size + 1 := by simp; omega
  obtain ⟨W6, hW6⟩ : ∃ q, w5.alloc (.cells #[.slice a1 ns c1, .slice a2 nm c2] 26) = q := ⟨_, rfl⟩
  obtain ⟨q5, hq5⟩ : ∃ q, w5.heap.size = q := ⟨_, rfl⟩
  have hq5l : w.heap.size + 1 < q5 := by omega
  rw [hW6, hq5] at hx6
  rw [hW6] at hres6 hS6 hM6 hr6 hbw6 hsz6
  have HPK := hidden (pick_any W6 (w.heap.size + 1) (w.heap.size + 1) (0 + 2000) 2 hr6 (by omega) (by omega) (by omega))
  have HSM := hidden hs
  have HNS := hidden hns
  have HNN := hidden hnm
  have HW6 := hidden hW6
  have HQ5 := hidden hq5
  have HX6 := hidden hx6
  have HRES := hidden hres6
  have HS := hidden hS6
  have HM := hidden hM6
  have HB := hidden hbw6
  clear hg5 hr5 hres5 hS hM hres1 hbw1 hbw5 hx6 hres6 hS6 hM6 hr6 hbw6 hW6 hq5 hs hns hnm
  go_upto_region 3 with fail
  rw [HW6.out, HQ5.out]
  clear HW6 HQ5
  go_wp2_with fail
  refine HPK.out.mono ?_
  clear HPK
  rintro e w7 ⟨k2, rfl, k20, k21, hr7, hg7⟩
  have hx7 := hidden (HX6.out.grown hg7 (by intro e; injection e with e; omega))
  have hres7 := hidden (HRES.out.grown hg7 (by intro e; injection e with e; omega))
  have hS7 := hidden (HS.out.low (g := w.heap.size + 1) (by omega) hg7)
  have hM7 := hidden (HM.out.kept hg7 (row_high HM.out (by omega)))
  have hb7 := hidden (HB.out.grown hg7 HB.out.size (by intro q hq; injection hq with hq; omega))
  have hlt7 : w.heap.size < w7.heap.size := hres7.out.lt
  have hltq : q5 < w7.heap.size := hx7.out.lt
  clear hg7 HX6 HRES HS HM HB
  by_cases hk : k2 = 0
  · have hk' : (k2 == 0) = true := by simp [hk]
    clear hr7 k20 k21 hk
    obtain ⟨S, hSe⟩ : ∃ q, namesIf gives (ss.map Sp.s) ms = q := ⟨_, rfl⟩
    have hSl : S.length ≤ 20 := by rw [← hSe]; exact Nat.le_trans (names_few _ _ _) (by rw [HNN.out]; exact h2)
    obtain ⟨nS, hnS⟩ : ∃ q, S.length = q := ⟨_, rfl⟩
    obtain ⟨R, hR⟩ : ∃ q, reachA S (ss.map Sp.s) ms = q := ⟨_, rfl⟩
    have hR8 := reachA_eight S (ss.map Sp.s) ms
    rw [hR] at hR8
    obtain ⟨N, hN⟩ : ∃ q, R.length = q := ⟨_, rfl⟩
    rw [hN] at hR8
    rw [hnS] at hSl
    have HOB : Hid (∀ W, w7.grownBy W (some w.heap.size) → Sects W W.heap.size a1 ss ∧ Syms W W.heap.size a2 ms) := fun W hW => by
      have e1 := hS7.out.low (g := w.heap.size) (by omega) hW
      have e2 := hM7.out.kept hW (row_high hM7.out (by omega))
      have n1 := HNS.out
      have n2 := HNN.out
      subst n1
      subst n2
      exact ⟨e1.sects, syms_of_own e2⟩
    have HGO : Hid (∀ W, w7.grownBy W (some w.heap.size) → Calls Try.prog 23 #[.agg #[.slice a1 ns c1, .slice a2 nm c2]] W fun e w' => ∃ (sa : Option Addr) (sc : Nat), e = .returned (.slice sa nS sc) ∧ Vals w' w'.heap.size sa (S.map Value.string) ∧ Below W.heap.size W w') := fun W hW => by
      obtain ⟨e1, e2⟩ := HOB.out W hW
      have := namesGiven'_any W W.heap.size a1 a2 c1 c2 ns nm ss ms HNS.out.symm HNN.out.symm e1 e2 (Nat.le_refl _) (by omega) (by omega) (fun y hy => (hS7.out.small y hy).fits'.lens) (fun x hx => (HSM.out x hx).fits.name)
      rw [hSe] at this
      refine this.mono fun e w' h => ?_
      obtain ⟨b, off, c, rfl, _, _, hb, hc, hbl⟩ := h
      exact ⟨some ⟨b, off, none⟩, c, by rw [hnS], fun _ => ⟨b, off, rfl, hb, hc⟩, hbl⟩
    have HRE : Hid (∀ (W : World) (ga : Option Addr) (gc : Nat), w7.grownBy W (some w.heap.size) → Vals W W.heap.size ga (S.map Value.string) → Calls Try.prog 22 #[.agg #[.slice a1 ns c1, .slice a2 nm c2], .slice ga nS gc] W (AnsI W R N)) := fun W ga gc hW hv => by
      obtain ⟨e1, e2⟩ := HOB.out W hW
      have := reachSections'_any W W.heap.size a1 a2 c1 c2 ns nm ss ms HNS.out.symm HNN.out.symm e1 e2 (Nat.le_refl _) (by omega) (by omega) (fun y hy => (hS7.out.small y hy).fits'.lens) (fun x hx => (HSM.out x hx).fits.name) S ga nS gc hv hnS (by omega) N (by rw [hR]; exact hN)
      rwa [hR] at this
    have HNE := hidden hN
    have HFI : Hid (∀ (W : World) (ka : Option Addr) (kc : Nat), w7.grownBy W (some w.heap.size) → W.ownsRow w7.heap.size 3 1 (.slice ka N kc) N (R.map (Value.int .i64)) → GotI w (.returned (.tuple #[.agg #[.slice a1 ns c1, .slice a2 nm c2], .slice ka N kc])) W) := fun W ka kc hW hv =>
      gotI_mk HNS.out HNN.out HNE.out h1 h2 HSM.out (hS7.out.low (g := w.heap.size) (by omega) hW) (hM7.out.kept hW (row_high hM7.out (by omega))) hv hR8 (hb7.out.grown hW hb7.out.size (by intro q hq; injection hq with hq; omega))
    clear hSe hnS hR hN HOB hS7 hM7 hb7 HNE HNS HNN HSM hR8 hSl
    go_upto_region 4 with fail
    refine wp_region_free (m := 3) (js := [.quiet (.agg #[.slice a1 ns c1, .slice a2 nm c2]) 0 3, .quiet (.agg #[.slice a1 ns c1, .slice a2 nm c2]) 0 3, .quiet (.agg #[.slice a1 ns c1, .slice a2 nm c2]) 0 3, .chain 0 false, .chain 1 false, .free 3, .chain 2 false]) (by kernel_rfl) (JE w7 w.heap.size q5 (.slice a1 ns c1) (.slice a2 nm c2) S nS R N) (by kernel_rfl) (by kernel_rfl) ⟨fun _ => undef, ⟨(only_drewN (World.grownBy.refl w7 _) 1), hx7.out.drew, hres7.out.drew, (fun e => by cases e), (fun e => absurd e (by decide)), (fun e => by cases e)⟩⟩ (fun vals => ?_) ?_
    · show SeqX _ _ _ _ _ _ _
      refine ⟨fun kk hlo hhi ff W hW => ?_, ?_⟩
      · have q0 : W.cell? ⟨q5, 0, none⟩ = some (.slice a1 ns c1) := hW.obj.cell 0
        have q1 : W.cell? ⟨q5, 1, none⟩ = some (.slice a2 nm c2) := hW.obj.cell 1
        unfold Oper.wp
        simp [go_sem, q0, q1]
        try exact ⟨_, rfl, rfl⟩
      simp only [Act.put, JobX.val, List.setIfInBounds_toArray, List.set_cons_succ, List.set_cons_zero]
      refine ⟨fun kk hlo hhi ff W hW => ?_, ?_⟩
      · have q0 : W.cell? ⟨q5, 0, none⟩ = some (.slice a1 ns c1) := hW.obj.cell 0
        have q1 : W.cell? ⟨q5, 1, none⟩ = some (.slice a2 nm c2) := hW.obj.cell 1
        unfold Oper.wp
        simp [go_sem, q0, q1]
        try exact ⟨_, rfl, rfl⟩
      simp only [Act.put, JobX.val, List.setIfInBounds_toArray, List.set_cons_succ, List.set_cons_zero]
      refine ⟨fun kk hlo hhi ff W hW => ?_, ?_⟩
      · have q0 : W.cell? ⟨q5, 0, none⟩ = some (.slice a1 ns c1) := hW.obj.cell 0
        have q1 : W.cell? ⟨q5, 1, none⟩ = some (.slice a2 nm c2) := hW.obj.cell 1
        unfold Oper.wp
        simp [go_sem, q0, q1]
        try exact ⟨_, rfl, rfl⟩
      simp only [Act.put, JobX.val, List.setIfInBounds_toArray, List.set_cons_succ, List.set_cons_zero]
      refine ⟨fun ff W hwt hW => ?_, ?_⟩
      · have hgo := HGO.out W hW.only
        unfold Oper.wp
        simp [go_sem]
        refine hgo.mono ?_
        rintro e w' ⟨sa, sc, rfl, hvs, hbs⟩
        have hN := hW.c0 (c := sc) hbs hvs
        first | exact hN | exact ⟨_, rfl, hN⟩
      simp only [Act.put, JobX.val, List.setIfInBounds_toArray, List.set_cons_succ, List.set_cons_zero]
      refine ⟨fun ff W hwt hW => ?_, ?_⟩
      · obtain ⟨sa, sc, hv, hvs⟩ := hW.names rfl
        have hre := HRE.out W sa sc hW.only hvs
        rw [hv]
        unfold Oper.wp
        simp [go_sem]
        refine hre.mono ?_
        rintro e w' ⟨za, zc, rfl, -, hz, hbz⟩
        have hN := hW.c1 hbz hz
        first | exact hN | exact ⟨_, rfl, hN⟩
      simp only [Act.put, JobX.val, List.setIfInBounds_toArray, List.set_cons_succ, List.set_cons_zero]
      refine ⟨fun kk W hW => ?_, ?_⟩
      · have hN := fun u => hW.fr hlt7 (by omega) u
        have q0 : W.cell? ⟨w.heap.size, 0, none⟩ = some (.slice none 0 0) := hW.res.cell 0
        have q1 : W.cell? ⟨w.heap.size, 1, none⟩ = some (.slice none 0 0) := hW.res.cell 1
        have f0 : W.frozen? ⟨w.heap.size, 0, none⟩ = false := hW.res.free 0
        have f1 : W.frozen? ⟨w.heap.size, 1, none⟩ = false := hW.res.free 1
        unfold Oper.wp
        simp [go_sem, q0, q1, f0, f1]
        first | exact hN _ | exact ⟨undef, hN _⟩ | exact ⟨_, rfl, hN _⟩
      simp only [Act.put]
      refine ⟨fun ff W hwt hW => ?_, ?_⟩
      · obtain ⟨ra, rc, hv, -⟩ := hW.nums (by decide)
        have hN := hW.c2 hv.symm
        rw [hv]
        unfold Oper.wp
        simp [go_sem]
        first | exact hN | exact ⟨_, rfl, hN⟩
      exact trivial
    · intro ff W9 vals hff hJ
      obtain ⟨za, zc, hv, hz⟩ := hJ.nums (by decide)
      have hv2 := (hJ.last rfl).trans hv
      have hf1 : ff = true := hff rfl
      subst hf1
      have hp : Has W9 w.heap.size 26 #[.slice a1 ns c1, .slice a2 nm c2] := hJ.res
      have HF := hidden (HFI.out W9 za zc hJ.only hz)
      simp only [putAll, List.map_cons, List.map_nil, JobX.val, Act.put, List.setIfInBounds_toArray, List.set_cons_succ, List.set_cons_zero]
      rw [hv2]
      clear hv hv2 hz HGO HRE HFI hJ hff
      go_wp21
      refine bodyPost_ret (results_cell_rowK rfl _ _ w.heap.size 26 #[.slice a1 ns c1, .slice a2 nm c2] (0, 0) _ rfl hp Try.underlying26 rfl (by kernel_rfl)) rfl ?_
      exact HF.out
  · have hk' : (k2 == 0) = false := by simp [hk]
    have HFI : Hid (∀ (W : World) (nk : Nat) (Q : List Int) (ka : Option Addr) (kc : Nat), Q.length = nk → nk ≤ 8 → w7.grownBy W (some (w.heap.size + 1)) → W.ownsRow w7.heap.size 3 1 (.slice ka nk kc) nk (Q.map (Value.int .i64)) →
        Has ((W.setCell ⟨w.heap.size, 0, none⟩ (.slice a1 ns c1)).setCell ⟨w.heap.size, 1, none⟩ (.slice a2 nm c2)) w.heap.size 26 #[.slice a1 ns c1, .slice a2 nm c2] ∧ GotI w (.returned (.tuple #[.agg #[.slice a1 ns c1, .slice a2 nm c2], .slice ka nk kc])) ((W.setCell ⟨w.heap.size, 0, none⟩ (.slice a1 ns c1)).setCell ⟨w.heap.size, 1, none⟩ (.slice a2 nm c2))) := fun W nk Q ka kc hQ hk8 hW hv => by
      have G : W.grownBy ((W.setCell ⟨w.heap.size, 0, none⟩ (.slice a1 ns c1)).setCell ⟨w.heap.size, 1, none⟩ (.slice a2 nm c2)) (some w.heap.size) := only_trans (only_put' 0 _) (only_put' 1 _)
      have hS8 := hS7.out.low (g := w.heap.size + 1) (by omega) hW
      have hM8 := hM7.out.kept hW (row_high hM7.out (by omega))
      have hb8 := hb7.out.grown hW hb7.out.size (by intro q hq; injection hq with hq; omega)
      have hr8 := hres7.out.grown hW (by intro e; injection e with e; omega)
      exact ⟨(hr8.put 0 _).put 1 _, gotI_mk HNS.out HNN.out hQ h1 h2 HSM.out (hS8.low (g := w.heap.size) (by omega) G) (hM8.kept G (row_high hM8 (by omega))) (hv.kept G (row_high hv (by omega))) hk8 (hb8.grown G hb8.size (by intro q hq; injection hq with hq; omega))⟩
    have HRS : Hid (∀ W, w7.grownBy W (some (w.heap.size + 1)) → (W.cell? ⟨w.heap.size, 0, none⟩ = some (.slice none 0 0) ∧ W.cell? ⟨w.heap.size, 1, none⟩ = some (.slice none 0 0) ∧ W.frozen? ⟨w.heap.size, 0, none⟩ = false ∧ W.frozen? ⟨w.heap.size, 1, none⟩ = false) ∧ W.cell? ⟨q5, 0, none⟩ = some (.slice a1 ns c1) ∧ W.cell? ⟨q5, 1, none⟩ = some (.slice a2 nm c2)) := fun W hW => by
      have hr8 := hres7.out.grown hW (by intro e; injection e with e; omega)
      have hx8 := hx7.out.grown hW (by intro e; injection e with e; omega)
      exact ⟨⟨hr8.cell 0, hr8.cell 1, hr8.free 0, hr8.free 1⟩, hx8.cell 0, hx8.cell 1⟩
    clear hS7 hM7 hb7 hres7 hx7 HNS HNN HSM k20 k21 hk
    go_wp2_with fail
    refine (pick_any _ (w.heap.size + 1) (w.heap.size + 1) _ 4 (hr7.alloc _) (by omega) (by omega) (by omega)).mono ?_
    rintro e w8 ⟨x, rfl, hx0, hx1, hr8, hg8⟩
    obtain ⟨j0, rfl⟩ := Int.eq_ofNat_of_zero_le hx0
    have hown8 : w8.ownsRow w7.heap.size 3 1 (.slice (some ⟨w7.heap.size, 0, none⟩) 0 0) 0 (([] : List Int).map (Value.int .i64)) :=
      (World.ownsRow_lit (base := w7.heap.size) (e := 3) (size := 1) w7 #[] 0 (Nat.le_refl _) (by unfold maxLen; omega) rfl).kept hg8 (.inr (by simp [Value.ownBlock]; omega))
    have hgw8 : w7.grownBy w8 (some (w.heap.size + 1)) := only_trans (only_alloc (World.grownBy.refl w7 _) _) hg8
    clear hr7 hg8
    go_wp2_with fail
    go_loopw [6, 7] (fun v k wr => ∃ (j : Nat) (Q : List Int) (P : Int), k = .int .i64 j ∧ Q.length + j ≤ 3 ∧ P + j ≤ 2010 ∧ Rd wr (w.heap.size + 1) (w.heap.size + 1) P ∧
        wr.ownsRow w7.heap.size 3 1 v Q.length (Q.map (Value.int .i64)) ∧ w7.grownBy wr (some (w.heap.size + 1)))
      (fun _ k _ => (intOf k).toNat)
    case atStart => exact ⟨j0, [], _, rfl, by simp; omega, by omega, hr8, hown8, hgw8⟩
    case round =>
      obtain ⟨j, Q, P, rfl, hlj, hP, hr, hown, hgw⟩ := hrel
      clear hr8 hown8 hgw8
      obtain ⟨va, vc, rfl⟩ := own_shape hown
      rcases Nat.eq_zero_or_pos j with rfl | hjp
      · obtain ⟨⟨r0, r1, u0, u1⟩, y0, y1⟩ := HRS.out wr hgw
        obtain ⟨nk, hnk⟩ : ∃ q, Q.length = q := ⟨_, rfl⟩
        rw [hnk] at hown hlj ⊢
        have HF := hidden (HFI.out wr nk Q va vc hnk (by omega) hgw hown)
        clear hr hown hgw HRS HFI hnk
        go_wp21
        refine bodyPost_ret (results_cell_rowK rfl _ _ w.heap.size 26 #[.slice a1 ns c1, .slice a2 nm c2] (0, 0) _ rfl HF.out.1 Try.underlying26 rfl (by kernel_rfl)) rfl ?_
        exact HF.out.2
      · obtain ⟨j, rfl⟩ : ∃ j', j = j' + 1 := ⟨j - 1, by omega⟩
        go_wp2_with fail
        refine (pick_any _ (w.heap.size + 1) (w.heap.size + 1) P 5 hr (by omega) (by omega) (by omega)).mono ?_
        rintro e w2 ⟨y, rfl, hy0, hy1, hr2, hg2⟩
        have hown2 := hown.kept hg2 (row_high hown (by omega))
        have hgw2 := only_trans hgw hg2
        have hnb : Hid (∀ q, _ = some q → w7.heap.size ≤ q) := fun q hq => (hown2.lt q hq).1
        have HO := hidden hown2
        have s2 := hgw2.size
        have hw1 : wrap64 (y - 1) = y - 1 := by unfold wrap64; omega
        clear hr hown hgw hg2 hown2
        go_wp2_with (at_builtin; refine wpList_append_own _ rfl _ _ 27 rfl w7.heap.size 3 i0 (.int .i64 0) 1 8 Try.underlying27 hi hz0 hz1 hz2 rfl (by decide) _ _ _ rfl (HO.out.alloc _) ⟨w2.heap.size, 0, none⟩ 1 1 [.int .i64 (y - 1)] rfl rfl ?c1 ?c2 ?c3 ?c4 ?c5 ?_)
        case c1 =>
          intro t u ht
          match t, ht with
          | 0, ht => simp at ht; subst ht; simp [Addr.add]
        case c2 => intro u hu; simp at hu; subst hu; rfl
        case c3 => unfold maxLen; omega
        case c4 => omega
        case c5 => simp; omega
        · intro v' w4 hown4 hgrow _
          have hown5 : w4.ownsRow w7.heap.size 3 1 v' (Q ++ [y - 1]).length ((Q ++ [y - 1]).map (Value.int .i64)) := by simpa using hown4
          have hr5 := (hr2.alloc _).grown hgrow (fun q hq => ⟨by have := hnb.out q hq; omega, by have := hnb.out q hq; omega⟩)
          have hgw5 := only_own (only_alloc hgw2 _) hgrow (fun q hq => hnb.out q hq)
          clear hown4 hgrow HO hnb hr2 hgw2
          go_wp2_with fail
          go_roundw
          case rel => exact ⟨j, Q ++ [y - 1], _, by go_num, by simp; omega, by omega, hr5, hown5, hgw5⟩
          case measure => simp [intOf]

end Go.Proofs.Ytjpclpjhigongaa

/-
  What is wanted of impl.DumpObject; the walk of FnExactDumpObject.
-/
import Derived.Test.YtdmdjlnpbmiadaaDoorTabsD
import Derived.Test.YtdmdjlnpbmiadaaDoorWant4
import Derived.Test.YtdmdjlnpbmiadaaDoorDumpO
import Derived.Test.YtdmdjlnpbmiadaaDoorMarkP
import Derived.Deep.RegionWith
namespace Go.Proofs.YtdmdjlnpbmiadaaDoor
open Go.RowKit

theorem Vals.mkD {w w' : World} {lo hi B : Nat} {a : Option Addr} {vs : List Value} (h : Vals w B a vs) (hm : Mk lo hi w w') (hB : B ≤ lo) (hBw : B ≤ w.heap.size) : Vals w' B a vs := h.keep fun p hp => hm.cell (by omega) (.inl (by omega))
theorem Has.mkD {w w' : World} {lo hi g : Nat} {t : TypeId} {cs : Array Value} (h : Has w g t cs) (hm : Mk lo hi w w') (ho : g < lo ∨ hi ≤ g) : Has w' g t cs := (hm.block g h.lt ho).trans h
theorem Mk.belowD {w w0 w' : World} {lo hi B : Nat} (h : Below B w0 w) (hm : Mk lo hi w w') (hB : B ≤ lo) (hs : B ≤ w.heap.size) : Below B w0 w' :=
  ⟨hm.os.trans h.os, hm.tape.trans h.tape, hm.output.trans h.output, Nat.le_trans h.size hm.size, fun b hb => (hm.block b (by omega) (.inl (by omega))).trans (h.block b hb)⟩
/-- The lines of an object, as texts; none where it is no object. -/
def dumpX (ss : List Sx) (ms : List Sm) : List ByteArray := if objOk ss ms then (dumpL ss ms).map strOfNums else []
theorem dumpX_short (ss : List Sx) (ms : List Sm) : (dumpX ss ms).length ≤ 100 := by
  unfold dumpX
  split
  · rename_i h
    unfold objOk at h
    simp only [Bool.and_eq_true, List.all_eq_true, decide_eq_true_eq] at h
    have hf : ∀ (l : List Sx), (∀ s ∈ l, s.fixs.length ≤ 6) → (l.flatMap fun s => secT s :: s.fixs.map fixT).length ≤ 7 * l.length := by
      intro l
      induction l with
      | nil => intro _; simp
      | cons s l ih =>
        intro hl
        have h1 := ih fun x hx => hl x (List.mem_cons_of_mem _ hx)
        have h2 := hl s (List.mem_cons_self ..)
        simp only [List.flatMap_cons, List.length_append, List.length_cons, List.length_map]
        omega
    have h6 := hf ss fun s hs => by
      have := h.1 s hs
      unfold sectOk at this
      simp only [Bool.and_eq_true, decide_eq_true_eq] at this
      exact this.1.1.2
    have h8 := h.2.2.1
    have h12 := h.2.2.2
    unfold dumpL
    simp only [List.length_map, List.length_append]
    omega
  · simp
/-- What the lines are to be: in a row of its own. -/
def WantDump (f : FuncId) : Prop := ∀ (w : World) (B : Nat) (a1 a2 : Option Addr) (c1 c2 : Nat) (l : List Sp) (ms : List Sm), Sects w B a1 l → Syms w B a2 ms → B ≤ w.heap.size → l.length ≤ 9223372036854775807 → ms.length ≤ 9223372036854775807 → (∀ y ∈ l, y.s.fits) → (∀ x ∈ ms, x.fits) →
  Calls Tryd.prog f #[.agg #[.slice a1 l.length c1, .slice a2 ms.length c2]] w (FreshS w (dumpX (l.map Sp.s) ms))
def WantDumpC (f : FuncId) : Prop := ∀ (w : World) (B : Nat) (a1 a2 : Option Addr) (c1 c2 : Nat) (l : List Sp) (ms : List Sm), Tabs w → Sects w B a1 l → Syms w B a2 ms → B ≤ w.heap.size → l.length ≤ 9223372036854775807 → ms.length ≤ 9223372036854775807 → (∀ y ∈ l, y.s.fits) → (∀ x ∈ ms, x.fits) →
  Calls Tryd.prog f #[.agg #[.slice a1 l.length c1, .slice a2 ms.length c2]] w fun e w' => FreshS w (dumpX (l.map Sp.s) ms) e w' ∧ ∀ a n c, e = .returned (.slice a n c) → n ≤ c ∧ c ≤ maxLen
def WantDumpObject : Prop := WantDumpC 7
def Dumped (w : World) (S : List ByteArray) (e : Ending) (w' : World) : Prop :=
  ∃ a c, e = .returned (.slice a S.length c) ∧ Vals w' w'.heap.size a (S.map Value.string) ∧ Below w.heap.size w w'
theorem dumpTold_any (w : World) (B : Nat) (a1 a2 : Option Addr) (c1 c2 n m : Nat) (l : List Sp) (ms : List Sm) (hn : n = l.length) (hm : m = ms.length) (h1 : Sects w B a1 l) (h2 : Syms w B a2 ms) (hB : B ≤ w.heap.size) (hlen : n ≤ 9223372036854775807) (hlem : m ≤ 9223372036854775807)
    (hl : ∀ y ∈ l, y.s.lens) (hs : ∀ x ∈ ms, x.name.size ≤ maxLen) :
    Calls Tryd.prog 5 #[.agg #[.slice a1 n c1, .slice a2 m c2]] w (Dumped w (dumpX (l.map Sp.s) ms)) :=
  (dumpObject'_any w B a1 a2 c1 c2 n m l ms hn hm h1 h2 hB hlen hlem hl hs).mono fun e w' ⟨v, he, ho, hb⟩ => by
    have ho' : w'.ownsRow w.heap.size 9 1 v ((dumpT l ms).map Value.string).length ((dumpT l ms).map Value.string) := by rw [List.length_map]; exact ho
    obtain ⟨a, c, hv, _, hvv⟩ := vals_of_own ho'
    refine ⟨a, c, ?_, hvv, hb⟩
    rw [he, hv, List.length_map]
    rfl
set_option maxRecDepth 100000 in
set_option maxHeartbeats 4000000 in
theorem law_ExactDumpObject (hW : WantDumpObject) (w : World) (hT : Tabs w) (a1 a2 : Option Addr) (c1 c2 n m : Nat) (l : List Sp) (ms : List Sm) (hn : n = l.length) (hm : m = ms.length) (h1 : Sects w w.heap.size a1 l) (h2 : Syms w w.heap.size a2 ms) (hlen : n ≤ 9223372036854775807) (hlem : m ≤ 9223372036854775807)
    (hl : ∀ y ∈ l, y.s.fits) (hs : ∀ x ∈ ms, x.fits) :
    Calls Tryd.prog 3 #[.agg #[.slice a1 n c1, .slice a2 m c2]] w fun e w' => e = .returned (.bool true) ∧ Below w.heap.size w w' := by
  have hW2 := fun (W : World) (B : Nat) (a1 a2 : Option Addr) (c1 c2 : Nat) (l : List Sp) (ms : List Sm) (hB0 : Below w.heap.size w W) h1 h2 hB k1 k2 k3 k4 => (hW W B a1 a2 c1 c2 l ms (hT.below hB0 hT.lt) h1 h2 hB k1 k2 k3 k4).mono fun _ _ h => h.1
  clear hW hT
  have HSZ := hidden (fun (W : World) (hB : Below w.heap.size w W) => szObject_any W w.heap.size a1 a2 c1 c2 n m l ms hn hm (h1.below hB) (h2.below hB) hB.size hlen hlem (fun y hy => (hl y hy).lens) (fun x hx => (hs x hx).name) 1048576 (by omega) (by omega))
  have HTO := hidden (fun (W : World) (hB : Below w.heap.size w W) (k1 : n ≤ 1048576) (k2 : m ≤ 1048576) (k3 : ∀ y ∈ l, y.s.short) => toObject_any W w.heap.size a1 a2 c1 c2 n m l ms hn hm (h1.below hB) (h2.below hB) hB.size k1 k2 k3)
  obtain ⟨S, hS⟩ : ∃ S, dumpX (l.map Sp.s) ms = S := ⟨_, rfl⟩
  have HSL : Hid (S.length ≤ 100) := by show _ ≤ _; rw [← hS]; exact dumpX_short _ _
  have HIM : Hid (∀ (W : World) (l' : List Sp) (g1 g2 : Nat), Below w.heap.size w W → l'.map Sp.s = l.map Sp.s → Sects W W.heap.size (some ⟨g1, 0, none⟩) l' → Syms W W.heap.size (some ⟨g2, 0, none⟩) ms →
      Calls Tryd.prog 7 #[.agg #[.slice (some ⟨g1, 0, none⟩) n n, .slice (some ⟨g2, 0, none⟩) m m]] W (FreshS W S)) := fun W l' g1 g2 hb0 he k1 k2 => by
    have := hW2 W W.heap.size (some ⟨g1, 0, none⟩) (some ⟨g2, 0, none⟩) n m l' ms hb0 k1 k2 (Nat.le_refl _) (by rw [length_same he, ← hn]; exact hlen) (by rw [← hm]; exact hlem) (fits_same he hl) hs
    rwa [length_same he, ← hn, ← hm, he, hS] at this
  have HSP : Hid (∀ (W : World) (l' : List Sp) (g1 g2 : Nat), l'.map Sp.s = l.map Sp.s → Sects W W.heap.size (some ⟨g1, 0, none⟩) l' → Syms W W.heap.size (some ⟨g2, 0, none⟩) ms →
      Calls Tryd.prog 5 #[.agg #[.slice (some ⟨g1, 0, none⟩) n n, .slice (some ⟨g2, 0, none⟩) m m]] W (Dumped W S)) := fun W l' g1 g2 he k1 k2 => by
    have := dumpTold_any W W.heap.size (some ⟨g1, 0, none⟩) (some ⟨g2, 0, none⟩) n m n m l' ms (by rw [length_same he, ← hn]) hm k1 k2 (Nat.le_refl _) hlen hlem (fun y hy => (fits_same he hl y hy).lens) (fun x hx => (hs x hx).name)
    rwa [he, hS] at this
  have HEQ : Hid (∀ (W : World) (B1 : Nat) (l1 l2 : List Sp) (g1 g2 h1 h2 : Nat), l1.map Sp.s = l.map Sp.s → l2.map Sp.s = l.map Sp.s → B1 ≤ W.heap.size → Sects W B1 (some ⟨g1, 0, none⟩) l1 → Syms W B1 (some ⟨g2, 0, none⟩) ms → Sects W W.heap.size (some ⟨h1, 0, none⟩) l2 → Syms W W.heap.size (some ⟨h2, 0, none⟩) ms →
      Calls Tryd.prog 9 #[.agg #[.slice (some ⟨g1, 0, none⟩) n n, .slice (some ⟨g2, 0, none⟩) m m], .agg #[.slice (some ⟨h1, 0, none⟩) n n, .slice (some ⟨h2, 0, none⟩) m m]] W fun e w' => e = .returned (.bool true) ∧ Below W.heap.size W w') := fun W B1 l1 l2 g1 g2 h1 h2 e1 e2 hB k1 k2 k3 k4 =>
    eqObject_yes W B1 W.heap.size (some ⟨g1, 0, none⟩) (some ⟨g2, 0, none⟩) (some ⟨h1, 0, none⟩) (some ⟨h2, 0, none⟩) n m n m n m l1 l2 ms (e1.trans e2.symm) (by rw [length_same e1, ← hn]) hm k1 k2 k3 k4 hB (Nat.le_refl _) hlen hlem (fun y hy => (fits_same e1 hl y hy).lens)
  obtain ⟨q, hq⟩ : ∃ q, S.length = q := ⟨_, rfl⟩
  have HES : Hid (∀ (W : World) (B1 B2 : Nat) (x1 x2 : Option Addr) (d1 d2 : Nat), Vals W B1 x1 (S.map Value.string) → Vals W B2 x2 (S.map Value.string) → Calls Tryd.prog 8 #[.slice x1 q d1, .slice x2 q d2] W fun e w' => e = .returned (.bool true) ∧ Below W.heap.size W w') := fun W B1 B2 x1 x2 d1 d2 k1 k2 =>
    (eqStringS_yes W B1 B2 x1 x2 d1 d2 q S hq.symm k1 k2 (by have h0 : S.length ≤ 100 := HSL.out; omega)).mono fun e w' ⟨he, n, hn⟩ => ⟨he, by rw [hn]; exact below_drewN (Below.refl _ _) n⟩
  have HLN := hidden hn
  have HLM := hidden hm
  have HQ := hidden hq
  unfold TookO at HTO
  unfold SizedO at HSZ
  unfold FreshS at HIM
  unfold Dumped at HSP
  rw [hq] at HIM HSP HSL
  clear h1 h2 hl hs hW2 hn hm hS hq
  go_enter Tryd.func3, Tryd.ntmps3
  have hb0 : Below w.heap.size w (w.alloc (.cells #[.slice a1 n c1, .slice a2 m c2] 25)) := (Below.refl _ _).alloc (Nat.le_refl _) _
  have hx0 : Has (w.alloc (.cells #[.slice a1 n c1, .slice a2 m c2] 25)) w.heap.size 25 #[.slice a1 n c1, .slice a2 m c2] := Has.new _ _ _
  go_wp2_with fail
  refine (HSZ.out _ hb0).mono ?_
  clear HSZ
  rintro e w1 ⟨r, rfl, hb1, hr0, hr1, hr2⟩
  have hx1 := hx0.below hb1 hx0.lt
  have hB1 := hb0.trans (hb1.mono hb0.size)
  by_cases hneg : r < 0
  · clear hr2 hx0 hx1
    go_wp2_with fail
    go_ret
    exact ⟨rfl, hB1⟩
  obtain ⟨⟨q1, q2⟩, q3, _⟩ := hr2 (by omega)
  have hl1 : n ≤ 1048576 := by rw [HLN.out]; exact q1
  have hl2 : m ≤ 1048576 := by rw [HLM.out]; exact q3
  have hq1 : q ≤ 1048576 := Nat.le_trans HSL.out (by omega)
  have HSH := hidden q2
  have x0 : World.cell? w1 ⟨w.heap.size, 0, none⟩ = some (.slice a1 n c1) := hx1.cell 0
  have x1 : World.cell? w1 ⟨w.heap.size, 1, none⟩ = some (.slice a2 m c2) := hx1.cell 1
  clear hr2 hx0 hb0 hb1 q1 q2 q3
  have HX1 := hidden hx1
  clear hx1
  go_wp2_with fail
  refine (HTO.out w1 hB1 hl1 hl2 HSH.out).mono ?_
  rintro e w2 ⟨l2, f1, f2, he2, rfl, hi2, hf2, hb2, -, -, -⟩
  have hB2 := hB1.trans (hb2.mono hB1.size)
  have hx2 := HX1.out.below hb2 HX1.out.lt
  have HS2 := hidden (HSP.out w2 l2 f1 f2 he2 hi2 hf2)
  clear x0 x1 hi2 hf2 hb2 hB1 HX1 HSP he2
  go_wp2_with fail
  refine HS2.out.mono ?_
  clear HS2
  rintro e w3 ⟨va, vc, he3, hvals3, hb3⟩
  subst he3
  have hB3 := hB2.trans (hb3.mono hB2.size)
  have hx3 := hx2.below hb3 hx2.lt
  have HV3 : Hid (Vals w3 w3.heap.size va (S.map Value.string)) := hvals3
  have x0 : World.cell? w3 ⟨w.heap.size, 0, none⟩ = some (.slice a1 n c1) := hx3.cell 0
  have x1 : World.cell? w3 ⟨w.heap.size, 1, none⟩ = some (.slice a2 m c2) := hx3.cell 1
  have HX3 := hidden hx3
  have HX3lt := hidden hx3.lt
  clear hx2 hx3 hb3 hB2 hvals3
  go_wp2_with fail
  refine (HTO.out w3 hB3 hl1 hl2 HSH.out).mono ?_
  rintro e w4 ⟨l', g1, g2, he4, rfl, hi4, hf4, hb4, hlg1, hlg2, hfar4, ⟨cs4, hcs4, hfx4⟩, ⟨cm4, hcm4, hcm4s⟩⟩
  have HE4 := hidden he4
  have hB4 := hB3.trans (hb4.mono hB3.size)
  have hx4 := HX3.out.below hb4 HX3.out.lt
  have HV4 := hidden (HV3.out.below hb4)
  have s34 := hb4.size
  have hB4a : Below w.heap.size w (w4.alloc (.cells #[.slice (some ⟨g1, 0, none⟩) n n, .slice (some ⟨g2, 0, none⟩) m m] 32)) := hB4.alloc hB4.size _
  have hbA : Below w4.heap.size w4 (w4.alloc (.cells #[.slice (some ⟨g1, 0, none⟩) n n, .slice (some ⟨g2, 0, none⟩) m m] 32)) := (Below.refl _ _).alloc (Nat.le_refl _) _
  have hx4a := hx4.alloc (.cells #[.slice (some ⟨g1, 0, none⟩) n n, .slice (some ⟨g2, 0, none⟩) m m] 32)
  have hy4a : Has (w4.alloc (.cells #[.slice (some ⟨g1, 0, none⟩) n n, .slice (some ⟨g2, 0, none⟩) m m] 32)) w4.heap.size 32 #[.slice (some ⟨g1, 0, none⟩) n n, .slice (some ⟨g2, 0, none⟩) m m] := Has.new _ _ _
  have s4 : w4.heap.size ≤ (w4.alloc (.cells #[.slice (some ⟨g1, 0, none⟩) n n, .slice (some ⟨g2, 0, none⟩) m m] 32)).heap.size := by simp
  have hi4a : Sects (w4.alloc (.cells #[.slice (some ⟨g1, 0, none⟩) n n, .slice (some ⟨g2, 0, none⟩) m m] 32)) (w4.alloc (.cells #[.slice (some ⟨g1, 0, none⟩) n n, .slice (some ⟨g2, 0, none⟩) m m] 32)).heap.size (some ⟨g1, 0, none⟩) l' := (hi4.alloc (Nat.le_refl _) _).more s4
  have hf4a : Syms (w4.alloc (.cells #[.slice (some ⟨g1, 0, none⟩) n n, .slice (some ⟨g2, 0, none⟩) m m] 32)) (w4.alloc (.cells #[.slice (some ⟨g1, 0, none⟩) n n, .slice (some ⟨g2, 0, none⟩) m m] 32)).heap.size (some ⟨g2, 0, none⟩) ms := (hf4.alloc (Nat.le_refl _) _).more s4
  have HI4 := hidden (HIM.out _ l' g1 g2 hB4a he4 hi4a hf4a)
  have HIA := hidden hi4a
  have HFA := hidden hf4a
  have HXA := hidden hx4a
  have HYA := hidden hy4a
  have HBA := hidden hB4a
  have HAA := hidden hbA
  have HVA := hidden (HV4.out.alloc s34 (.cells #[.slice (some ⟨g1, 0, none⟩) n n, .slice (some ⟨g2, 0, none⟩) m m] 32))
  have HFAR := hidden hfar4
  have HCS := hidden hcs4
  have HFX := hidden hfx4
  have HCM := hidden hcm4
  have HCMS := hidden hcm4s
  have S4 := hidden s4
  clear x0 x1 hi4 hf4 hb4 HX3 hx4 he4 hi4a hf4a hx4a hy4a hB4a s4 hB4 hfar4 hcs4 hfx4 hcm4 hcm4s hbA HV3 HV4
  go_wp2_with fail
  refine HI4.out.mono ?_
  clear HI4
  rintro e w5 ⟨ra, rc, he5, hrow5, hb5⟩
  subst he5
  have HB5 := hidden (HBA.out.trans (hb5.mono HBA.out.size))
  have HX5 := hidden (HXA.out.below hb5 HXA.out.lt)
  have HY5 := hidden (HYA.out.below hb5 HYA.out.lt)
  have HI5 := hidden (HIA.out.below hb5)
  have HF5 := hidden (HFA.out.below hb5)
  have HA5 := hidden (HAA.out.trans (hb5.mono S4.out))
  have HV5 := hidden (HVA.out.below (hb5.mono (Nat.le_trans s34 S4.out)))
  have HR5 : Hid (RowS w5 w4.heap.size ra S) := fun hp => by
    obtain ⟨g, cs, k1, k2, k3, k4, k5⟩ := hrow5 (by rw [← HQ.out]; exact hp)
    exact ⟨g, cs, k1, by have := S4.out; omega, k3, by rw [HQ.out]; exact k4, k5⟩
  have HE5 := hidden (HES.out w5 w5.heap.size w3.heap.size ra va rc vc HR5.out.vals HV5.out)
  have S5 := hidden hb5.size
  clear HXA HYA HIA HFA HBA HVA HAA hb5 hrow5
  go_wp2_with fail
  refine HE5.out.mono ?_
  clear HE5
  rintro e w6 ⟨rfl, hb6⟩
  have HB6 := hidden (HB5.out.trans (hb6.mono HB5.out.size))
  have HX6 := hidden (HX5.out.below hb6 HX5.out.lt)
  have HY6 := hidden (HY5.out.below hb6 HY5.out.lt)
  have HI6 := hidden (HI5.out.below (hb6.mono S5.out))
  have HF6 := hidden (HF5.out.below (hb6.mono S5.out))
  have HA6 := hidden (HA5.out.trans (hb6.mono HA5.out.size))
  have HV6 := hidden (HV5.out.below (hb6.mono (Nat.le_trans s34 HA5.out.size)))
  have HR6 := hidden (HR5.out.below hb6)
  have S6 := hidden (Nat.le_trans S5.out hb6.size)
  clear HB5 HX5 HY5 HI5 HF5 HA5 HV5 HR5 S5 hb6
  have x0 : World.cell? w6 ⟨w.heap.size, 0, none⟩ = some (.slice a1 n c1) := HX6.out.cell 0
  have x1 : World.cell? w6 ⟨w.heap.size, 1, none⟩ = some (.slice a2 m c2) := HX6.out.cell 1
  have y0 : World.cell? w6 ⟨w4.heap.size, 0, none⟩ = some (.slice (some ⟨g1, 0, none⟩) n n) := HY6.out.cell 0
  have y1 : World.cell? w6 ⟨w4.heap.size, 1, none⟩ = some (.slice (some ⟨g2, 0, none⟩) m m) := HY6.out.cell 1
  have hB6d : Below w.heap.size w w6.drew := HB6.out.drew
  have HTD := hidden (HTO.out w6.drew hB6d hl1 hl2 HSH.out)
  have HYD : Hid (Has w6.drew w4.heap.size 32 #[.slice (some ⟨g1, 0, none⟩) n n, .slice (some ⟨g2, 0, none⟩) m m]) := HY6.out
  have HID : Hid (Sects w6.drew (w4.alloc (.cells #[.slice (some ⟨g1, 0, none⟩) n n, .slice (some ⟨g2, 0, none⟩) m m] 32)).heap.size (some ⟨g1, 0, none⟩) l') := HI6.out.drewN 1
  have HFD : Hid (Syms w6.drew (w4.alloc (.cells #[.slice (some ⟨g1, 0, none⟩) n n, .slice (some ⟨g2, 0, none⟩) m m] 32)).heap.size (some ⟨g2, 0, none⟩) ms) := HF6.out.drewN 1
  have HSD : Hid ((w4.alloc (.cells #[.slice (some ⟨g1, 0, none⟩) n n, .slice (some ⟨g2, 0, none⟩) m m] 32)).heap.size ≤ w6.drew.heap.size) := S6.out
  go_upto_region 10 with fail
  go_cut [31] from 27 (fun v wx => v = .bool false ∧ Hid (Below w6.heap.size w6 wx))
  case first =>
    go_region_with (first
      | (go_at_call 6; refine HTD.out.mono ?_; rintro e w7 ⟨l7, h1, h2, he7, rfl, hi7, hf7, hb7, -, -, -⟩;
         have HB7 := hidden hb7; have HI7 := hidden hi7; have HF7 := hidden hf7; have HE7 := hidden he7; have hy7 := HYD.out.below hb7 HYD.out.lt; clear hi7 hf7 hb7 he7;
         have v0 := hy7.cell 0; have v1 := hy7.cell 1;
         simp only [List.getElem?_toArray, List.getElem?_cons_zero, List.getElem?_cons_succ] at v0 v1; clear hy7)
      | (go_at_call 9; refine (HEQ.out _ _ l' l7 g1 g2 _ _ HE4.out HE7.out (Nat.le_trans HSD.out HB7.out.size) (HID.out.below (HB7.out.mono HSD.out)) (HFD.out.below (HB7.out.mono HSD.out)) HI7.out HF7.out).mono ?_; rintro e w8 ⟨rfl, hb8⟩))
    all_goals
      have hB8 : Below w6.heap.size w6 w8 := ((Below.refl _ _).drew.trans HB7.out).trans (hb8.mono HB7.out.size)
      clear hb8
      go_wp2_with fail
      go_meet
      exact ⟨rfl, hB8⟩
  case rest =>
    obtain ⟨rfl, hbc⟩ := hcut
    have HXc := hidden (HX6.out.below hbc.out HX6.out.lt)
    have HYc := hidden (HY6.out.below hbc.out HY6.out.lt)
    have HAc := hidden (HA6.out.trans (hbc.out.mono HA6.out.size))
    have HVc := hidden (HV6.out.below (hbc.out.mono (Nat.le_trans s34 HA6.out.size)))
    have HRc := hidden (HR6.out.below hbc.out)
    have HBc := hidden (HB6.out.trans (hbc.out.mono HB6.out.size))
    clear HTD HYD HID HFD HSD hB6d x0 x1 y0 y1 HX6 HY6 HI6 HF6 HA6 HV6 HR6 HB6 S6 hbc HEQ
    have y0 : World.cell? wc ⟨w4.heap.size, 0, none⟩ = some (.slice (some ⟨g1, 0, none⟩) n n) := HYc.out.cell 0
    have y1 : World.cell? wc ⟨w4.heap.size, 1, none⟩ = some (.slice (some ⟨g2, 0, none⟩) m m) := HYc.out.cell 1
    have hlo : w.heap.size < w3.heap.size := HX3lt.out
    have HMK := hidden (markObject_mk wc w3.heap.size w4.heap.size g1 g2 n m n m l' cs4 cm4 1 (by rw [length_same HE4.out]; exact HLN.out) (HCS.out.below HAc.out HCS.out.lt) HFX.out.keptX hlg1 HCS.out.lt (fun y hy => (HFAR.out y hy).below HAc.out)
      (fun y hy b hb => by
        obtain ⟨b1, b2, ha1, ha2, _, _, _, _, ⟨cb, k1, _⟩, ⟨cf, k2, _⟩⟩ := HFAR.out y hy
        rcases hb with hb | hb
        · rw [ha1] at hb; injection hb with hb; injection hb with e1; rw [← e1]; exact k1.lt
        · rw [ha2] at hb; injection hb with hb; injection hb with e1; rw [← e1]; exact k2.lt)
      (fun y hy => by
        have hm : y.s ∈ l.map Sp.s := by rw [← HE4.out]; exact List.mem_map_of_mem hy
        obtain ⟨z, hz, e⟩ := List.mem_map.1 hm
        rw [← e]; exact HSH.out z hz)
      (HCM.out.below HAc.out HCM.out.lt) HCMS.out (Nat.le_trans hlg1 (Nat.le_of_lt hlg2)) HCM.out.lt hl1 hl2 (by omega) (by omega) HAc.out.size)
    have hac := HAc.out.size
    go_wp2_with fail
    refine HMK.out.mono ?_
    clear HMK
    rintro e w7 ⟨r7, rfl, r70, hmk⟩
    have HX7 := hidden (HXc.out.mkD hmk (.inl hlo))
    have HV7 := hidden (HVc.out.mkD hmk (Nat.le_refl _) (Nat.le_trans s34 hac))
    have HR7 := hidden (HRc.out.mk hmk (Nat.le_refl _))
    have HB7 := hidden (hmk.belowD HBc.out (Nat.le_of_lt hlo) HBc.out.size)
    have h47 : w4.heap.size ≤ w7.heap.size := Nat.le_trans hac hmk.size
    have HE7 := hidden (HES.out w7 w7.heap.size w3.heap.size ra va rc vc HR7.out.vals HV7.out)
    have hr7 : ¬ r7 < 0 := by omega
    clear HXc HYc HAc HVc HRc HBc hmk y0 y1 HFAR HCS HFX HCM HCMS hac
    go_wp2_with fail
    refine HE7.out.mono ?_
    clear HE7
    rintro e w8 ⟨rfl, hb8⟩
    have HX8 := hidden (HX7.out.below hb8 HX7.out.lt)
    have HV8 := hidden (HV7.out.below (hb8.mono (Nat.le_trans s34 h47)))
    have HR8 := hidden (HR7.out.below hb8)
    have HB8 := hidden (HB7.out.trans (hb8.mono HB7.out.size))
    have h48 : w4.heap.size ≤ w8.heap.size := Nat.le_trans h47 hb8.size
    have HMR := hidden (mark_row w8 w4.heap.size q rc ra S HQ.out.symm HR8.out hq1)
    clear HX7 HV7 HR7 HB7 hb8
    go_wp2_with fail
    refine HMR.out.mono ?_
    clear HMR
    rintro e w9 ⟨rfl, hrm9, hmk9⟩
    have HX9 := hidden (HX8.out.mkD hmk9 (.inl (by omega)))
    have HV9 := hidden (HV8.out.mkD hmk9 s34 (Nat.le_trans s34 h48))
    have HB9 := hidden (hmk9.belowD HB8.out (by omega) HB8.out.size)
    have h49 : w4.heap.size ≤ w9.heap.size := Nat.le_trans h48 hmk9.size
    have HHR := hidden (held_row w9 w4.heap.size q rc ra hrm9 hq1)
    have HRM9 := hidden hrm9
    clear HX8 HV8 HR8 HB8 hmk9 hrm9
    go_wp2_with fail
    refine HHR.out.mono ?_
    clear HHR
    rintro e w10 ⟨rfl, hb10⟩
    have hX10 := HX9.out.below hb10 HX9.out.lt
    have HV10 := hidden (HV9.out.below (hb10.mono (Nat.le_trans s34 h49)))
    have hB10 := HB9.out.trans (hb10.mono HB9.out.size)
    have HRM10 := hidden (HRM9.out.below hb10)
    have h410 : w4.heap.size ≤ w10.heap.size := Nat.le_trans h49 hb10.size
    have x0 : World.cell? w10 ⟨w.heap.size, 0, none⟩ = some (.slice a1 n c1) := hX10.cell 0
    have x1 : World.cell? w10 ⟨w.heap.size, 1, none⟩ = some (.slice a2 m c2) := hX10.cell 1
    have hnn : ¬ (1 + (q : Int)) < 0 := by omega
    have HTD := hidden (HTO.out w10 hB10 hl1 hl2 HSH.out)
    clear HX9 HV9 HB9 HRM9 hb10 hX10 HTO
    go_wp2_with fail
    refine HTD.out.mono ?_
    clear HTD
    rintro e w11 ⟨l7, f3, f4, he7, rfl, hi7, hf7, hb11, -, -, -⟩
    have HB11 := hidden (hB10.trans (hb11.mono hB10.size))
    have HV11 := hidden (HV10.out.below (hb11.mono (Nat.le_trans s34 h410)))
    have HRM11 := hidden (HRM10.out.below hb11)
    have h411 : w4.heap.size ≤ w11.heap.size := Nat.le_trans h410 hb11.size
    have HI11 := hidden (HIM.out w11 l7 f3 f4 HB11.out he7 hi7 hf7)
    clear HV10 HRM10 hb11 hB10 hi7 hf7 he7 HIM x0 x1
    go_wp2_with fail
    refine HI11.out.mono ?_
    clear HI11
    rintro e w12 ⟨ha, hc, he12, hrow12, hb12⟩
    subst he12
    have HB12 := hidden (HB11.out.trans (hb12.mono HB11.out.size))
    have HV12 := hidden (HV11.out.below (hb12.mono (Nat.le_trans s34 h411)))
    have HRM12 := hidden (HRM11.out.below hb12)
    have HR12 : Hid (RowS w12 w4.heap.size ha S) := fun hp => by
      obtain ⟨g, cs, k1, k2, k3, k4, k5⟩ := hrow12 (by rw [← HQ.out]; exact hp)
      exact ⟨g, cs, k1, by omega, k3, by rw [HQ.out]; exact k4, k5⟩
    have HE12 := hidden (HES.out w12 w12.heap.size w3.heap.size ha va hc vc HR12.out.vals HV12.out)
    clear HB11 HV11 HRM11 hb12 hrow12
    go_wp2_with fail
    refine HE12.out.mono ?_
    clear HE12
    rintro e w13 ⟨rfl, hb13⟩
    have HB13 := hidden (HB12.out.trans (hb13.mono HB12.out.size))
    have HRM13 := hidden (HRM12.out.below hb13)
    have HH13 := hidden (held_row w13 w4.heap.size q rc ra HRM13.out hq1)
    clear HB12 HV12 HRM12 HR12 hb13
    go_wp2_with fail
    refine HH13.out.mono ?_
    clear HH13
    rintro e w14 ⟨rfl, hb14⟩
    have hB14 := HB13.out.trans (hb14.mono HB13.out.size)
    clear HB13 HRM13 hb14
    go_wp2_with fail
    go_ret
    exact ⟨rfl, hB14⟩

end Go.Proofs.YtdmdjlnpbmiadaaDoor

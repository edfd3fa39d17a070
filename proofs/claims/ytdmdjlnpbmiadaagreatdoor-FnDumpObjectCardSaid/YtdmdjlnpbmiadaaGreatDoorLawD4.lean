/-
  What the library's variables hold when a call begins. What is wanted of impl.ReadDump; the walk of FnDumpObject, over what is wanted of the program.
-/
import Derived.Test.YtdmdjlnpbmiadaaGreatDoorTabsD
import Derived.Test.YtdmdjlnpbmiadaaGreatDoorDumpN
import Derived.Test.YtdmdjlnpbmiadaaGreatDoorLawD3
import Derived.Test.YtdmdjlnpbmiadaaGreatDoorLawD1
import Derived.Test.YtdmdjlnpbmiadaaGreatDoorDrawD8
import Derived.Test.YtdmdjlnpbmiadaaGreatDoorSR
import Derived.Test.YtdmdjlnpbmiadaaGreatDoorSamE
import Derived.Test.YtdmdjlnpbmiadaaGreatDoorSameT
/- What the library's variables hold when a call begins. -/
namespace Go.Proofs.YtdmdjlnpbmiadaaGreatDoor
open Go.RowKit

def libTop : Nat := max (max 1 0) (max 4 5) + 1
theorem tab_le_lib : tabTop ≤ libTop := by decide
/-- The table, the longest text that is looked for at once, and the two errors. -/
structure Libs (W : World) : Prop where
  lt : libTop ≤ W.heap.size
  tabs : Tabs W
  most : ∃ m, W.cell? ⟨0, 0, none⟩ = some (.int .i64 m)
  syn : ∃ t u, W.cell? ⟨4, 0, none⟩ = some (.iface t u)
  rng : ∃ t u, W.cell? ⟨5, 0, none⟩ = some (.iface t u)
theorem Libs.below {W W' : World} {B : Nat} (h : Libs W) (hb : Below B W W') (hB : libTop ≤ B) : Libs W' := by
  have k : ∀ i, i < libTop → W'.cell? ⟨i, 0, none⟩ = W.cell? ⟨i, 0, none⟩ := fun i hi => hb.cell (by show i < B; omega)
  refine ⟨Nat.le_trans h.lt hb.size, h.tabs.below hb (Nat.le_trans tab_le_lib hB), ?_, ?_, ?_⟩
  · rw [k _ (by decide)]; exact h.most
  · rw [k _ (by decide)]; exact h.syn
  · rw [k _ (by decide)]; exact h.rng
end Go.Proofs.YtdmdjlnpbmiadaaGreatDoor
/- What is wanted of impl.ReadDump; the walk of FnDumpObject, over what is wanted of the program. -/
namespace Go.Proofs.YtdmdjlnpbmiadaaGreatDoor
open Go.RowKit

theorem numL_byte (n : Int) : ∀ c ∈ numL n, 0 ≤ c ∧ c < 256 := fun c hc => by have := numL_chars n c hc; omega
theorem bytes_app {a b : List Int} (ha : ∀ c ∈ a, 0 ≤ c ∧ c < 256) (hb : ∀ c ∈ b, 0 ≤ c ∧ c < 256) : ∀ c ∈ a ++ b, 0 ≤ c ∧ c < 256 := fun c hc => (List.mem_append.1 hc).elim (ha c) (hb c)
theorem bytes_sp {b : List Int} (hb : ∀ c ∈ b, 0 ≤ c ∧ c < 256) : ∀ c ∈ 32 :: b, 0 ≤ c ∧ c < 256 := fun c hc => (List.mem_cons.1 hc).elim (fun h => by omega) (hb c)
theorem secT_byte {s : Sx} (h : ∀ x ∈ s.bytes, 0 ≤ x ∧ x < 256) : ∀ c ∈ secT s, 0 ≤ c ∧ c < 256 := by
  unfold secT
  refine bytes_app (by decide) (bytes_sp (bytes_app (numsOf_wf _) (bytes_sp (bytes_app (numL_byte _) (bytes_sp (bytes_app (numL_byte _) (bytes_sp (bytes_app (numL_byte _) ?_))))))))
  split
  · exact bytes_sp fun c hc => by have := hexL_chars _ h c hc; omega
  · intro c hc; cases hc
theorem fixT_byte (f : Fx) : ∀ c ∈ fixT f, 0 ≤ c ∧ c < 256 := by
  unfold fixT
  exact bytes_app (by decide) (bytes_sp (bytes_app (numL_byte _) (bytes_sp (bytes_app (numL_byte _) (bytes_sp (bytes_app (numL_byte _) (bytes_sp (numL_byte _))))))))
theorem symT_byte (m : Sm) : ∀ c ∈ symT m, 0 ≤ c ∧ c < 256 := by
  unfold symT
  exact bytes_app (by decide) (bytes_sp (bytes_app (numsOf_wf _) (bytes_sp (bytes_app (numL_byte _) (bytes_sp (bytes_app (numL_byte _) (bytes_sp (numL_byte _))))))))
theorem dumpL_cases {ss : List Sx} {ms : List Sm} {t : List Int} (h : t ∈ dumpL ss ms) : (∃ s ∈ ss, t = secT s) ∨ (∃ s ∈ ss, ∃ f ∈ s.fixs, t = fixT f) ∨ ∃ m ∈ ms, t = symT m := by
  unfold dumpL at h
  rcases List.mem_append.1 h with h | h
  · obtain ⟨s, hs, h⟩ := List.mem_flatMap.1 h
    rcases List.mem_cons.1 h with h | h
    · exact .inl ⟨s, hs, h⟩
    · obtain ⟨f, hf, h⟩ := List.mem_map.1 h
      exact .inr (.inl ⟨s, hs, f, hf, h.symm⟩)
  · obtain ⟨m, hm, h⟩ := List.mem_map.1 h
    exact .inr (.inr ⟨m, hm, h.symm⟩)
/-- Read as numbers the lines are the lines. -/
theorem dumpX_nums {ss : List Sx} {ms : List Sm} (h : objOk ss ms = true) (hb : ∀ s ∈ ss, ∀ x ∈ s.bytes, 0 ≤ x ∧ x < 256) : (dumpX ss ms).map numsOf = dumpL ss ms := by
  unfold dumpX
  rw [if_pos h, List.map_map]
  conv => rhs; rw [← List.map_id (dumpL ss ms)]
  refine List.map_congr_left fun t ht => numsOf_strOfNums ?_
  rcases dumpL_cases ht with ⟨s, hs, rfl⟩ | ⟨s, hs, f, hf, rfl⟩ | ⟨m, hm, rfl⟩
  · exact secT_byte (hb s hs)
  · exact fixT_byte f
  · exact symT_byte m
theorem name_few {s : ByteArray} (h : nameOk s.data.toList = true) : s.size ≤ 8 := by
  have := ((nameOk_iff _).1 h).1.2
  rw [Array.length_toList] at this
  exact this
/-- A line is short. -/
theorem dumpX_small {l : List Sp} {ms : List Sm} (hf : ∀ y ∈ l, y.s.fits) (hm : ∀ x ∈ ms, x.fits) : ∀ t ∈ dumpX (l.map Sp.s) ms, t.size ≤ 1000 := fun t ht => by
  unfold dumpX at ht
  split at ht
  · rename_i hok
    have htold := objOk_told hok
    obtain ⟨q, hq, rfl⟩ := List.mem_map.1 ht
    rw [strOfNums_size]
    rcases dumpL_cases hq with ⟨s, hs, rfl⟩ | ⟨s, hs, f, hff, rfl⟩ | ⟨m, hmm, rfl⟩
    · obtain ⟨y, hy, rfl⟩ := List.mem_map.1 hs
      have hs := htold.sec y hy
      unfold sectOk at hs
      simp only [Bool.and_eq_true, decide_eq_true_eq] at hs
      have h1 := name_few hs.1.1.1.1.1.1
      have h2 := hs.1.1.1.2
      have k1 := numL_size (hf y hy).kind
      have k2 := numL_size (hf y hy).align
      have k3 : (numL y.s.long).length ≤ 21 := by
        unfold Sx.long
        split
        · exact numL_size (hf y hy).size
        · exact numL_size ⟨by omega, by omega⟩
      have k4 := numsOf_length y.s.name
      have k5 := hexL_length y.s.bytes
      unfold secT
      split
      · simp only [List.length_append, List.length_cons, k4, k5]
        rw [show tSec.length = 7 from rfl]
        omega
      · simp only [List.length_append, List.length_cons, List.length_nil, k4]
        rw [show tSec.length = 7 from rfl]
        omega
    · obtain ⟨y, hy, rfl⟩ := List.mem_map.1 hs
      obtain ⟨p1, p2, p3, p4⟩ := (hf y hy).fixs f hff
      have k1 := numL_size p1
      have k2 := numL_size p2
      have k3 := numL_size p3
      have k4 := numL_size p4
      unfold fixT
      simp only [List.length_append, List.length_cons]
      rw [show tFix.length = 5 from rfl]
      omega
    · have hs := htold.sym m hmm
      have hn : nameOk m.name.data.toList = true := by
        unfold symOk at hs
        simp only [Bool.and_eq_true] at hs
        exact hs.1.1
      have h1 := name_few hn
      have k1 := numL_size (hm m hmm).bind
      have k2 := numL_size (hm m hmm).loc
      have k3 := numL_size (hm m hmm).value
      have k4 := numsOf_length m.name
      unfold symT
      simp only [List.length_append, List.length_cons, k4]
      rw [show tSym.length = 6 from rfl]
      omega
  · cases ht
/-- What ReadDump is to answer: an object in rows of its own, or nothing. -/
def ReadD (w : World) (l : List (List Int)) (e : Ending) (w' : World) : Prop :=
  Below w.heap.size w w' ∧ ((rdD l = none ∧ e = .returned (.tuple #[.agg #[.slice none 0 0, .slice none 0 0], .bool false])) ∨
    ∃ (ss : List Sp) (ms : List Sm) (a1 a2 : Option Addr) (c1 c2 : Nat), rdD l = some (ss.map Sp.s, ms) ∧ e = .returned (.tuple #[.agg #[.slice a1 ss.length c1, .slice a2 ms.length c2], .bool true]) ∧
      SR w' w.heap.size (.slice a1 ss.length c1) ss ∧ w'.ownsRow w.heap.size 58 4 (.slice a2 ms.length c2) ms.length (flatM ms))
def WantReadDump : Prop := ∀ (w : World) (B : Nat) (a : Option Addr) (c : Nat) (S : List ByteArray), Libs w → Vals w B a (S.map Value.string) → B ≤ w.heap.size → S.length ≤ 1048576 → (∀ s ∈ S, s.size ≤ 1048576) → S.length ≤ c → c ≤ 9223372036854775807 →
  Calls Tryz.prog 12 #[.slice a S.length c] w (ReadD w (S.map numsOf))
theorem FreshS.told {w : World} {S : List ByteArray} {e : Ending} {w' : World} (h : FreshS w S e w') : ∃ (a : Option Addr) (c : Nat), e = .returned (.slice a S.length c) ∧ Vals w' w'.heap.size a (S.map Value.string) ∧ Below w.heap.size w w' := by
  obtain ⟨a, c, he, hr, hb⟩ := h
  refine ⟨a, c, he, fun hp => ?_, hb⟩
  obtain ⟨g, cs, h1, h2, h3, h4, h5⟩ := hr (by rw [List.length_map] at hp; exact hp)
  refine ⟨g, 0, h1, h3.lt, fun i u hu => ?_⟩
  rw [List.getElem?_map] at hu
  obtain ⟨s, hs, rfl⟩ := Option.map_eq_some_iff.1 hu
  rw [Nat.zero_add, h3.cell]
  exact h5 i s hs
theorem ReadD.told {w : World} {t : List (List Int)} {e : Ending} {w' : World} (h : ReadD w t e w') : ∃ (ok : Bool) (ss : List Sp) (ms : List Sm) (a1 a2 : Option Addr) (c1 c2 : Nat), e = .returned (.tuple #[.agg #[.slice a1 ss.length c1, .slice a2 ms.length c2], .bool ok]) ∧
    (ok = true → rdD t = some (ss.map Sp.s, ms)) ∧ (ok = false → rdD t = none ∧ ss = [] ∧ ms = []) ∧ Sects w' w'.heap.size a1 ss ∧ Syms w' w'.heap.size a2 ms ∧ (∀ y ∈ ss, ∀ x ∈ y.s.bytes, (Lit.int .u8 x).wf = true) ∧ Below w.heap.size w w' := by
  obtain ⟨hb, ⟨hr, he⟩ | ⟨ss, ms, a1, a2, c1, c2, hr, he, hs, hm⟩⟩ := h
  · exact ⟨false, [], [], none, none, 0, 0, he, (fun e => by cases e), (fun _ => ⟨hr, rfl, rfl⟩), ⟨fun h => absurd h (by simp), (fun y hy => by cases hy), (fun y hy => by cases hy)⟩, (fun h => absurd h (by simp)), (fun y hy => by cases hy), hb⟩
  · exact ⟨true, ss, ms, a1, a2, c1, c2, he, fun _ => hr, (fun e => by cases e), hs.sects, syms_of_own hm, hs.wf, hb⟩
set_option maxRecDepth 100000 in
set_option maxHeartbeats 4000000 in
theorem law_DumpObject (hR : WantReadDump) (hW : WantDumpObject) (w : World) (hT : Libs w) (a0 : Option Addr) (len cap : Nat) (h : Came w a0 len cap) :
    Calls Tryz.prog 3 #[.slice a0 len cap] w fun e w' => e = .returned (.bool true) ∧ Below w.heap.size w w' := by
  obtain ⟨l0, h, rfl, hcap, hmax⟩ := h
  by_cases hbig : 1048576 < l0.length
  · have hd : (1048576 : Int) < (l0.length : Int) := by omega
    go_enter Tryz.func3, Tryz.ntmps3
    go_wp2
    go_ret
    exact ⟨rfl, Below.refl _ _⟩
  have hd : ¬ (1048576 : Int) < (l0.length : Int) := by omega
  have HD := hidden (drawDumpObject_any w a0 cap l0 h hcap hmax)
  clear h
  go_enter Tryz.func3, Tryz.ntmps3
  go_wp2_with fail
  refine HD.out.mono ?_
  clear HD
  rintro e w1 ⟨ss, ms, a1, a2, c1, c2, rfl, h8, h20, hsm, hmm, hs1, hm1, -, hb1⟩
  have hsf : ∀ y ∈ ss, y.s.fits := fun y hy => (hsm y hy).fits'
  have hmf : ∀ x ∈ ms, x.fits := fun x hx => (hmm x hx).fits
  have hbb : ∀ s ∈ ss.map Sp.s, ∀ x ∈ s.bytes, 0 ≤ x ∧ x < 256 := fun s hs x hx => by
    obtain ⟨y, hy, rfl⟩ := List.mem_map.1 hs
    exact wf_u8.mp ((hsm y hy).wf x hx)
  have HWI := hidden (fun (W : World) (hB : Below w1.heap.size w1 W) => hW W w1.heap.size a1 a2 c1 c2 ss ms (hT.below (hb1.trans (hB.mono hb1.size)) hT.lt).tabs (hs1.below hB) (hm1.below hB) hB.size (by omega) (by omega) hsf hmf)
  have HWS := hidden (fun (W : World) (hB : Below w1.heap.size w1 W) => dumpTold_any W w1.heap.size a1 a2 c1 c2 ss.length ms.length ss ms rfl rfl (hs1.below hB) (hm1.below hB) hB.size (by omega) (by omega) (fun y hy => (hsf y hy).lens) (fun x hx => (hmf x hx).name))
  have HOV := hidden (fun (W : World) (hB : Below w1.heap.size w1 W) => objectValid'_any W w1.heap.size a1 a2 c1 c2 ss.length ms.length ss ms rfl rfl (hs1.below hB) (hm1.below hB) hB.size (by omega) (by omega) (fun y hy => (hsf y hy).lens) (fun x hx => (hmf x hx).name))
  have HSML : Hid (∀ t ∈ dumpX (ss.map Sp.s) ms, t.size ≤ 1048576) := fun t ht => Nat.le_trans (dumpX_small hsf hmf t ht) (by omega)
  have hLs := dumpX_short (ss.map Sp.s) ms
  have HRY : Hid (objOk (ss.map Sp.s) ms = true → rdD ((dumpX (ss.map Sp.s) ms).map numsOf) = some (ss.map Sp.s, ms)) := fun e => by rw [dumpX_nums e hbb]; exact rdD_dump e hbb
  have HL0 : Hid (objOk (ss.map Sp.s) ms = false → dumpX (ss.map Sp.s) ms = []) := fun e => by unfold dumpX; rw [e]; rfl
  obtain ⟨S, hS⟩ : ∃ q, dumpX (ss.map Sp.s) ms = q := ⟨_, rfl⟩
  obtain ⟨ok, hok⟩ : ∃ q, objOk (ss.map Sp.s) ms = q := ⟨_, rfl⟩
  rw [hS] at HWI HWS HSML hLs HRY HL0
  rw [hok] at HOV HRY HL0
  obtain ⟨ns, hns⟩ : ∃ q, ss.length = q := ⟨_, rfl⟩
  obtain ⟨nm, hnm⟩ : ∃ q, ms.length = q := ⟨_, rfl⟩
  rw [hns, hnm] at HWI HWS HOV
  rw [hns, hnm]
  have HNS := hidden hns
  have HNM := hidden hnm
  have HS1 := hidden hs1
  have HM1 := hidden hm1
  have HSF := hidden hsf
  have HB1 := hidden hb1
  have HR := hidden (fun (W : World) (hB : Below w1.heap.size w1 W) => hT.below (hb1.trans (hB.mono hb1.size)) hT.lt)
  have HRR := hidden hR
  obtain ⟨Ln, hLn⟩ : ∃ q, S.length = q := ⟨_, rfl⟩
  unfold Dumped at HWS
  rw [hLn] at HWS hLs
  have HLN := hidden hLn
  have hx1 : Has (w1.alloc (.cells #[.slice a1 ns c1, .slice a2 nm c2] 26)) w1.heap.size 26 #[.slice a1 ns c1, .slice a2 nm c2] := Has.new _ _ _
  have hC1 : Below w1.heap.size w1 (w1.alloc (.cells #[.slice a1 ns c1, .slice a2 nm c2] 26)) := (Below.refl _ _).alloc (Nat.le_refl _) _
  have HX1 := hidden hx1
  have HC1 := hidden hC1
  clear hsm hmm hs1 hm1 hsf hmf hb1 hS hok hns hnm hLn hR hW hx1 hC1 hbb
  go_wp2_with fail
  refine (HWI.out _ HC1.out).mono ?_
  clear HWI
  rintro e w2 ⟨hr, hcp⟩
  obtain ⟨b4, c4, he, hv2, hb2⟩ := hr.told
  obtain ⟨hc4, hm4⟩ := hcp _ _ _ he
  rw [HLN.out] at he hc4
  subst he
  have HX2 := hidden (HX1.out.below hb2 (by simp))
  have HC2 := hidden (HC1.out.trans (hb2.mono HC1.out.size))
  have HV2 := hidden (fun (W : World) (hB : Below w2.heap.size w2 W) => hv2.below hB)
  have q0 : w2.cell? ⟨w1.heap.size, 0, none⟩ = some (.slice a1 ns c1) := HX2.out.cell 0
  have q1 : w2.cell? ⟨w1.heap.size, 1, none⟩ = some (.slice a2 nm c2) := HX2.out.cell 1
  have hc4m : c4 ≤ 9223372036854775807 := by unfold maxLen at hm4; omega
  clear hr hcp hv2 hb2 HX1 HC1 hm4
  go_wp2_with fail
  refine (HWS.out w2 HC2.out).mono ?_
  clear HWS q0 q1
  rintro e w3 ⟨b5, c5, he3, hv3, hb3⟩
  subst he3
  have HX3 := hidden (HX2.out.below hb3 HX2.out.lt)
  have HD3 := hidden hb3
  have HSB := hidden (sameTexts_yes w3 w2.heap.size w3.heap.size b4 b5 c4 c5 Ln S HLN.out.symm (HV2.out w3 hb3) hv3 (by omega))
  clear hv3 hb3 HX2
  go_wp2_with fail
  refine HSB.out.mono ?_
  clear HSB
  rintro e w4 ⟨rfl, m4, hw4⟩
  have hb4 : Below w3.heap.size w3 w4 := by rw [hw4]; exact below_drewN (Below.refl _ _) m4
  have HX4 := hidden (HX3.out.below hb4 HX3.out.lt)
  have HD4 := hidden (HD3.out.trans (hb4.mono HD3.out.size))
  have HC4 := hidden (HC2.out.trans (HD4.out.mono HC2.out.size))
  have q0 : w4.cell? ⟨w1.heap.size, 0, none⟩ = some (.slice a1 ns c1) := HX4.out.cell 0
  have q1 : w4.cell? ⟨w1.heap.size, 1, none⟩ = some (.slice a2 nm c2) := HX4.out.cell 1
  clear hw4 hb4 HX3 HD3
  go_wp2_with fail
  refine (HOV.out w4 HC4.out).mono ?_
  clear HOV q0 q1
  rintro e w5 ⟨rfl, hb5⟩
  have HX5 := hidden (HX4.out.below hb5 HX4.out.lt)
  have HD5 := hidden (HD4.out.trans (hb5.mono HD4.out.size))
  have HC5 := hidden (HC4.out.trans (hb5.mono HC4.out.size))
  clear hb5 HX4 HD4 HC4
  rcases ok with _ | _
  · have hl0 : Ln = 0 := by rw [← HLN.out, HL0.out rfl]; rfl
    subst hl0
    have HF5 := hidden (HB1.out.trans (HC5.out.mono HB1.out.size))
    go_wp2_with (go_at_call 11; refine (alive_any _).mono ?_; rintro e _ ⟨rfl, rfl⟩)
    go_ret
    exact ⟨rfl, HF5.out⟩
  have HRY1 := hidden (HRY.out rfl)
  have HRD := hidden (HRR.out w5 w2.heap.size b4 c4 S (HR.out w5 HC5.out) (HV2.out w5 HD5.out) HD5.out.size (by have := HLN.out; omega) HSML.out (by have := HLN.out; omega) hc4m)
  rw [HLN.out] at HRD
  go_wp2_with fail
  refine HRD.out.mono ?_
  clear HRD
  intro e w6 hr
  obtain ⟨ok1, ss1, ms1, d1, d2, f1, f2, he, hy1, hn1, hs6, hm6, hw6, hb6⟩ := hr.told
  subst he
  obtain rfl : ok1 = true := by
    rcases ok1 with _ | _
    · have q2 := (hn1 rfl).1; rw [HRY1.out] at q2; cases q2
    · rfl
  have hsame : ss1.map Sp.s = ss.map Sp.s ∧ ms1 = ms := by
    have q2 := hy1 rfl
    rw [HRY1.out] at q2
    injection q2 with q2
    injection q2 with q2 q3
    exact ⟨q2.symm, q3.symm⟩
  obtain ⟨hse, rfl⟩ := hsame
  have hk1 : ss1.length = ns := by have := congrArg List.length hse; rw [List.length_map, List.length_map] at this; rw [this]; exact HNS.out
  rw [hk1, HNM.out]
  have hl1 : ∀ y ∈ ss1, y.s.lens := fun y hy => (fits_same hse HSF.out y hy).lens
  have HX6 := hidden ((HX5.out.below hb6 HX5.out.lt).alloc (.cells #[.slice d1 ns f1, .slice d2 nm f2] 26))
  have HZ6 : Hid (Has (w6.alloc (.cells #[.slice d1 ns f1, .slice d2 nm f2] 26)) w6.heap.size 26 #[.slice d1 ns f1, .slice d2 nm f2]) := Has.new _ _ _
  have hE6 : Below w6.heap.size w6 (w6.alloc (.cells #[.slice d1 ns f1, .slice d2 nm f2] 26)) := (Below.refl _ _).alloc (Nat.le_refl _) _
  have HE6 := hidden hE6
  have HC6 := hidden (HC5.out.trans ((hb6.trans (hE6.mono hb6.size)).mono HC5.out.size))
  have HS6 := hidden hs6
  have HM6 := hidden hm6
  have HK1 := hidden hk1
  have HL1 := hidden hl1
  have HSE := hidden hse
  clear hr hy1 hn1 hs6 hm6 hw6 hb6 hE6 HX5 HD5 HC5 hk1 hl1 hse
  go_upto_region 10 with fail
  obtain ⟨w7, hw7⟩ : ∃ q, w6.alloc (.cells #[.slice d1 ns f1, .slice d2 nm f2] 26) = q := ⟨_, rfl⟩
  rw [hw7] at HX6 HZ6 HE6 HC6
  try rw [hw7]
  clear hw7
  have q0 : w7.cell? ⟨w1.heap.size, 0, none⟩ = some (.slice a1 ns c1) := HX6.out.cell 0
  have q1 : w7.cell? ⟨w1.heap.size, 1, none⟩ = some (.slice a2 nm c2) := HX6.out.cell 1
  have q2 : w7.cell? ⟨w6.heap.size, 0, none⟩ = some (.slice d1 ns f1) := HZ6.out.cell 0
  have q3 : w7.cell? ⟨w6.heap.size, 1, none⟩ = some (.slice d2 nm f2) := HZ6.out.cell 1
  have hC7 := HC6.out
  have hE7 := HE6.out
  have HSO := hidden (sameObject_yes w7 w7.heap.size d1 a1 d2 a2 f1 c1 f2 c2 ns nm ss1 ss ms1 HSE.out HK1.out.symm HNM.out.symm ((HS6.out.below hE7).more hE7.size) ((HS1.out.below hC7).more hC7.size) ((HM6.out.below hE7).more hE7.size) ((HM1.out.below hC7).more hC7.size) (Nat.le_refl _) (by have := HNS.out; omega) (by have := HNM.out; omega) HL1.out)
  clear hC7 hE7
  go_wp2_with fail
  refine HSO.out.mono ?_
  clear HSO q0 q1 q2 q3
  rintro e w8 ⟨rfl, hb8⟩
  have HF8 := hidden (HB1.out.trans ((HC6.out.trans (hb8.mono HC6.out.size)).mono HB1.out.size))
  clear hb8
  go_wp2_with fail
  go_ret
  exact ⟨rfl, HF8.out⟩

end Go.Proofs.YtdmdjlnpbmiadaaGreatDoor

/-
  impl.ReachSections: a queue of sections that are reached.
-/
import Derived.Test.YtdjpihbhnncahaaQueI
import Derived.Test.YtdjpihbhnncahaaObI
namespace Go.Proofs.Ytdjpihbhnncahaa
open Go.RowKit

set_option maxRecDepth 100000 in
theorem containsK_any (w : World) (B : Nat) (K : List ByteArray) (ka : Option Addr) (nk kc : Nat) (hkv : Vals w B ka (K.map Value.string)) (hkn : K.length = nk) (hkm : nk ≤ 9223372036854775807) (x : ByteArray) :
    Calls Try.prog 33 #[.slice ka nk kc, .string x] w fun e w' => e = .returned (.bool (K.any fun z => decide (z = x))) ∧ w = w' := by
  have hc : ∀ z : List ByteArray, Lib.containsS z x = z.any fun y => decide (y = x) := fun z => by
    rw [Bool.eq_iff_iff, Lib.containsS_iff, List.any_eq_true]
    exact ⟨fun h => ⟨x, h, by simp⟩, fun ⟨y, h1, h2⟩ => by rw [← of_decide_eq_true h2]; exact h1⟩
  rcases Nat.eq_zero_or_pos nk with rfl | hp
  · obtain rfl : K = [] := List.eq_nil_of_length_eq_zero hkn
    exact (Try.slices_Contains_string_empty ka kc x w).mono fun e w' ⟨h1, h2⟩ => ⟨h1, h2.symm⟩
  · obtain ⟨b, o, rfl, _, hcc⟩ := hkv (by rw [List.length_map, hkn]; exact hp)
    refine (Try.slices_Contains_string b o nk kc K x w (by omega) (by omega) (fun j hj => hcc j _ ?_)).mono fun e w' ⟨h1, h2⟩ => ⟨?_, h2.symm⟩
    · rw [List.getElem?_map, List.getD_eq_getElem?_getD, List.getElem?_eq_getElem hj]; rfl
    · rw [h1, List.take_of_length_le (by omega), hc]
/-- What a sort leaves of a row of numbers. -/
theorem sorted_rowI {wr w2 : World} {g cap k base : Nat} {cur : Array Value} {os : Array Obj} {Q zs : List Int} (hb : Has wr g 3 cur) (hl : zs.length = Q.length) (hbase : base ≤ g) (h1 : Q.length ≤ cap) (h2 : cap ≤ maxLen) (h3 : cur.size = cap * 1)
    (hw2 : w2 = Go.Sort.grow (Go.Sort.putRow (Value.int .i64) (Go.Sort.ahead wr k) g 0 zs.toArray) os) :
    w2.ownsRow base 3 1 (.slice (some ⟨g, 0, none⟩) Q.length cap) Q.length (zs.map (Value.int .i64)) ∧ wr.grownBy w2 (some g) := by
  subst hw2
  have hg := hb.lt
  have hh : (Go.Sort.grow (Go.Sort.putRow (Value.int .i64) (Go.Sort.ahead wr k) g 0 zs.toArray) os).heap[g]? = some (.cells (Go.Sort.putCells (Value.int .i64) 0 zs.toArray cur) 3 (0, 0)) := by
    rw [Go.Sort.heap_grow_old _ _ (by simpa using hg)]
    have hb' : wr.heap[g]? = some (.cells cur 3 (0, 0)) := hb
    simp [Go.Sort.putRow, Go.Sort.mapBlock, Go.Sort.ahead, Array.getElem?_modify, hb', Go.Sort.onCells]
  have hcap : zs.length ≤ cur.size := by omega
  refine ⟨⟨by simp [hl], .inr ⟨g, cap, _, rfl, hbase, hh, h1, h2, by simp [Go.Sort.putCells, h3], ?_⟩⟩, rfl, rfl, rfl, by simp, fun i hi hne => ?_⟩
  · rw [Nat.mul_one, ← hl]
    apply List.ext_getElem?
    intro j
    rcases Nat.lt_or_ge j zs.length with hj | hj
    · rw [List.getElem?_take_of_lt hj, Array.getElem?_toList]
      simp [Go.Sort.putCells, hj, Nat.lt_of_lt_of_le hj hcap]
    · rw [List.getElem?_take_eq_none hj, List.getElem?_eq_none (by simpa using hj)]
  · rw [Go.Sort.heap_grow_old _ _ (by simpa using hi)]
    have : g ≠ i := fun e => hne (by rw [e])
    simp [Go.Sort.putRow, Go.Sort.mapBlock, Go.Sort.ahead, Array.getElem?_modify, this]
theorem holdsI {w : World} {g : Nat} {cur : Array Value} {Q : List Int} (hb : Has w g 3 cur) (ht : cur.toList.take (Q.length * 1) = Q.map (Value.int .i64)) : Go.Sort.Holds (Value.int .i64) w g 0 Q.toArray := by
  intro j hj
  have hj' : j < Q.length := by simpa using hj
  rw [Nat.mul_one] at ht
  have h1 := congrArg (fun l : List Value => l[j]?) ht
  simp only [List.getElem?_take_of_lt hj', Array.getElem?_toList] at h1
  refine ⟨?_, hb.free _⟩
  rw [Nat.zero_add, hb.cell, h1]
  simp [hj']
/-- Between two rounds: the number that is looked at now, or the end. -/
def StQ (w W : World) (v : Value) (Q : List Int) (p : Nat) (kv : Int) : Bool → Prop
  | true => Q[p]? = some kv ∧ QS w W v Q (p + 1)
  | false => p = Q.length ∧ QS w W v Q p
theorem next_any (w W : World) (v : Value) (Q : List Int) (p : Nat) (h : QS w W v Q p) (hp : p ≤ Q.length) (hq : Q.length ≤ 1000) :
    Calls Try.prog 35 #[.pointer (some ⟨w.heap.size, 0, none⟩)] W fun e W' => ∃ (kv : Int) (ok : Bool), e = .returned (.tuple #[.int .i64 kv, .bool ok]) ∧ StQ w W' v Q p kv ok := by
  rcases Nat.lt_or_ge p Q.length with hlt | hge
  · obtain ⟨x, hx⟩ : ∃ x, Q[p]? = some x := ⟨_, List.getElem?_eq_getElem hlt⟩
    exact (next_more w W v Q p h x hx hq).mono fun e W' ⟨h1, h2⟩ => ⟨x, true, h1, hx, h2⟩
  · have : p = Q.length := by omega
    exact (next_end w W v Q p h this hq).mono fun e W' ⟨h1, h2⟩ => ⟨0, false, h1, this, h2⟩
/-- How many rounds are left at most. -/
def leftQ (n g : Nat) (okv : Value) (W : World) : Nat := 2 * (n + 2 - (intOf ((W.cell? ⟨g, 1, none⟩).getD undef)).toNat) + (match okv with | .bool true => 1 | _ => 0)
theorem leftQ_of {n g p : Nat} {b : Bool} {W : World} (h : W.cell? ⟨g, 1, none⟩ = some (.int .i64 (p : Int))) : leftQ n g (.bool b) W = 2 * (n + 2 - p) + (if b then 1 else 0) := by
  unfold leftQ
  rw [h]
  cases b <;> simp [intOf]
theorem StQ.left {w W : World} {v : Value} {Q : List Int} {p : Nat} {kv : Int} {ok : Bool} {n : Nat} (h : StQ w W v Q p kv ok) : leftQ n w.heap.size (.bool ok) W = if ok then 2 * (n + 1 - p) + 1 else 2 * (n + 2 - p) := by
  cases ok with
  | true =>
    rw [leftQ_of (p := p + 1) (h.2.obj.cell 1)]
    simp
  | false =>
    rw [leftQ_of (p := p) (h.2.obj.cell 1)]
    simp
set_option maxRecDepth 100000 in
set_option maxHeartbeats 8000000 in
theorem reachSections_any (w : World) (B : Nat) (a1 a2 : Option Addr) (c1 c2 n m : Nat) (l : List Sp) (ms : List Sm) (hn : n = l.length) (hm : m = ms.length) (h1 : Sects w B a1 l) (h2 : Syms w B a2 ms) (hB : B ≤ w.heap.size) (hlen : n ≤ 9223372036854775807) (hlem : m ≤ 9223372036854775807) (hl : ∀ y ∈ l, y.s.fits) (hs : ∀ x ∈ ms, x.fits)
    (K : List ByteArray) (ka : Option Addr) (nk kc : Nat) (hkv : Vals w B ka (K.map Value.string)) (hkn : K.length = nk) (hkm : nk ≤ 9223372036854775807) (N : Nat) (hN : (reachA K (l.map Sp.s) ms).length = N) :
    Calls Try.prog 8 #[.agg #[.slice a1 n c1, .slice a2 m c2], .slice ka nk kc] w (AnsI w (reachA K (l.map Sp.s) ms) N) := by
  have hA1 : Has (w.alloc (.cells #[.slice a1 n c1, .slice a2 m c2] 26)) w.heap.size 26 #[.slice a1 n c1, .slice a2 m c2] := Has.new _ _ _
  have hB1 : Below w.heap.size w (w.alloc (.cells #[.slice a1 n c1, .slice a2 m c2] 26)) := (Below.refl _ _).alloc (Nat.le_refl _) _
  obtain ⟨W1, hW1⟩ : ∃ q, (w.alloc (.cells #[.slice a1 n c1, .slice a2 m c2] 26)) = q := ⟨_, rfl⟩
  rw [hW1] at hA1 hB1
  have x0 : W1.cell? ⟨w.heap.size, 0, none⟩ = some (.slice a1 n c1) := hA1.cell 0
  have x1 : W1.cell? ⟨w.heap.size, 1, none⟩ = some (.slice a2 m c2) := hA1.cell 1
  have HN := hidden hn
  have HM := hidden hm
  have HKV := hidden (hkv.more hB)
  have HKN := hidden hkn
  have H1 := hidden (h1.more hB)
  have H2 := hidden (h2.more hB)
  have HOV := hidden (objectValid_any W1 w.heap.size a1 a2 c1 c2 n m l ms hn hm ((h1.more hB).below hB1) ((h2.more hB).below hB1) hB1.size hlen hlem hl hs)
  obtain ⟨ok, hok⟩ : ∃ q, objOk (l.map Sp.s) ms = q := ⟨_, rfl⟩
  rw [hok] at HOV
  have HOK := hidden hok
  have HW1 := hidden hW1
  have HA1 := hidden hA1
  have HB1 := hidden hB1
  have HNN := hidden hN
  clear h1 h2 hl hs hB hn hm hok hkv hkn hN hA1 hB1 hW1
  go_enter Try.func8, Try.ntmps8
  go_upto_region 1 with fail
  rw [HW1.out]
  clear HW1
  go_wp2_with fail
  refine HOV.out.mono ?_
  clear HOV x0 x1
  rintro e wc ⟨rfl, hb3⟩
  have HA := hidden (HA1.out.below hb3 HA1.out.lt)
  have HBC := hidden (HB1.out.trans (hb3.mono HB1.out.size))
  clear HA1 HB1 hb3
  cases ok with
  | false =>
    have HAN : Hid (reachA K (l.map Sp.s) ms = []) := by
      show _ = _
      unfold reachA
      rw [HOK.out]; rfl
    have HN0 : Hid (N = 0) := by show _ = _; rw [← HNN.out, HAN.out]; rfl
    go_wp2_with fail
    go_ret
    rw [HAN.out, HN0.out]
    exact ⟨none, 0, rfl, rfl, World.ownsRow_nil _ _ _ _, HBC.out⟩
  | true =>
    have hpa := objOk_parts HOK.out
    have hm12 : m ≤ 12 := by rw [HM.out]; exact hpa.2.1
    have hn8 : n ≤ 8 := by rw [HN.out]; have := hpa.1; rwa [List.length_map] at this
    have HFT : Hid (∀ y ∈ l, y.s.fixs.length ≤ 6 ∧ ∀ f ∈ y.s.fixs, 0 ≤ f.to ∧ f.to < ms.length) := fun y hy => (hpa.2.2 y.s (List.mem_map_of_mem hy)).2
    have HLI : Hid (∀ y ∈ ms, 0 ≤ y.loc → y.loc.toNat < n) := fun y hy h0 => by
      have := loc_in HOK.out hy h0
      rwa [List.length_map, ← HN.out] at this
    have HAN : Hid (reachA K (l.map Sp.s) ms = numsM 0 (reachB K (l.map Sp.s) ms)) := by
      show _ = _
      unfold reachA
      rw [if_pos HOK.out]
    obtain ⟨adj, hadj⟩ : ∃ q, adjO (l.map Sp.s) ms = q := ⟨_, rfl⟩
    have HADJ : Hid (∀ (k : Nat) (y : Sp), l[k]? = some y → adj[k]? = some (y.s.fixs.map fun f => locAt ms f.to)) := fun k y hy => by
      rw [← hadj]
      unfold adjO
      rw [List.getElem?_map, List.getElem?_map, hy]; rfl
    have HRB : Hid (∀ Q0, startQ K [] ms = Q0 → reachB K (l.map Sp.s) ms = reachM adj (marksQ n Q0)) := fun Q0 hq => by
      unfold reachB
      rw [hadj, ← hq, startQ_marks, marksQ_none, List.length_map, ← HN.out]
    have hwb := HA.out.lt
    have H13 : Hid (∀ W, Below wc.heap.size wc W → Sects W wc.heap.size a1 l) := fun W h => ((H1.out.below HBC.out).more HBC.out.size).below h
    have H23 : Hid (∀ W, Below wc.heap.size wc W → Syms W wc.heap.size a2 ms) := fun W h => ((H2.out.below HBC.out).more HBC.out.size).below h
    have HK3 : Hid (∀ W, Below wc.heap.size wc W → Vals W wc.heap.size ka (K.map Value.string)) := fun W h => ((HKV.out.below HBC.out).more HBC.out.size).below h
    have HX : Hid (∀ W, Below wc.heap.size wc W → W.cell? ⟨w.heap.size, 0, none⟩ = some (.slice a1 n c1) ∧ W.cell? ⟨w.heap.size, 1, none⟩ = some (.slice a2 m c2)) := fun W h => by
      have := HA.out.below h HA.out.lt
      exact ⟨this.cell 0, this.cell 1⟩
    have HQ0 := hidden (QS.new wc)
    obtain ⟨W3, hW3⟩ : ∃ q, wc.alloc (.cells #[.slice none 0 0, .int .i64 0] 57) = q := ⟨_, rfl⟩
    rw [hW3] at HQ0
    have HW3 := hidden hW3
    obtain ⟨z0, z1⟩ := HX.out W3 HQ0.out.below
    clear hpa HA H1 H2 HKV hadj hW3
    go_upto_region 4 with fail
    rw [HW3.out]
    clear HW3
    go_wp2_with fail
    clear z0 z1
    go_loopw [18] (fun i wr => ∃ (k : Nat) (v : Value) (Q : List Int), i = .int .i64 k ∧ k ≤ m ∧ Hid (startQ K [] (ms.take k) = Q) ∧ Hid (QOk n Q) ∧ Hid (QS wc wr v Q 0)) (fun i _ => m - (intOf i).toNat)
    case atStart => exact ⟨0, _, [], rfl, Nat.zero_le _, (by show _ = _; rfl), QOk.none n, HQ0⟩
    case round =>
      obtain ⟨k, v, Q, rfl, hk, hst, hqo, hqs⟩ := hrel
      clear HQ0
      by_cases hlt : k < m
      · have hilt : (k : Int) < (m : Int) := by omega
        have hkl : k < ms.length := by rw [← HM.out]; exact hlt
        obtain ⟨b, off, rfl, hbB, p0, p1, p2, p3⟩ := (H23.out wr hqs.out.below).at_ hkl
        obtain ⟨y, hy⟩ : ∃ y, ms[k] = y := ⟨_, rfl⟩
        rw [hy] at p0 p1 p2 p3
        have hy2 : ms[k]? = some y := by rw [List.getElem?_eq_getElem hkl, hy]
        have HLO := hidden (HLI.out y (List.mem_of_getElem? hy2))
        have HNX := hidden (startQ_next (K := K) (Q := []) hy2)
        rw [hst.out] at HNX
        have hS : Has (wr.alloc (.cells #[.string y.name, .int .i64 y.bind, .int .i64 y.loc, .int .i64 y.value] 59)) wr.heap.size 59 #[.string y.name, .int .i64 y.bind, .int .i64 y.loc, .int .i64 y.value] := Has.new _ _ _
        have hq6 := hqs.out.alloc (.cells #[.string y.name, .int .i64 y.bind, .int .i64 y.loc, .int .i64 y.value] 59)
        obtain ⟨W6, hW6⟩ : ∃ q, wr.alloc (.cells #[.string y.name, .int .i64 y.bind, .int .i64 y.loc, .int .i64 y.value] 59) = q := ⟨_, rfl⟩
        obtain ⟨bx, hbx⟩ : ∃ q, wr.heap.size = q := ⟨_, rfl⟩
        rw [hW6, hbx] at hS
        rw [hW6] at hq6
        have s0 : W6.cell? ⟨bx, 0, none⟩ = some (.string y.name) := hS.cell 0
        have s1 : W6.cell? ⟨bx, 1, none⟩ = some (.int .i64 y.bind) := hS.cell 1
        have s2 : W6.cell? ⟨bx, 2, none⟩ = some (.int .i64 y.loc) := hS.cell 2
        have s3 : W6.cell? ⟨bx, 3, none⟩ = some (.int .i64 y.value) := hS.cell 3
        have HQ6 := hidden hq6
        have HCT := hidden (containsK_any W6 wc.heap.size K ka nk kc (HK3.out W6 hq6.below) HKN.out hkm y.name)
        have HPT := hidden (put_any wc W6 v Q 0 hq6 y (Nat.le_trans hqo.out.few (by omega)))
        have HW6 := hidden hW6
        have HBX := hidden hbx
        obtain ⟨t, ht⟩ : ∃ q, (K.any fun z => decide (z = y.name)) = q := ⟨_, rfl⟩
        rw [ht] at HCT
        have HST : Hid (starts K y = (t && decide (y.bind ≠ 0))) := by show _ = _; unfold starts; rw [ht]
        have HQ7 := hidden (hqo.out.put (w := y.loc) HLO.out)
        clear hkl hbB hy hy2 hS hq6 hW6 hbx ht hlt hqs hst HLO
        go_upto_region 7 with fail
        rw [HW6.out, HBX.out]
        clear p0 p1 p2 p3 HW6 HBX
        by_cases hbd : y.bind = 0
        · have hd : (y.bind == 0) = true := by rw [hbd]; rfl
          have hd2 : (y.bind != 0) = false := by rw [hbd]; rfl
          have HS1 : Hid (startQ K [] (ms.take (k + 1)) = Q) := by
            show _ = _
            rw [HNX.out, HST.out, hbd]; simp
          clear HNX HST HCT HPT HQ7 hbd s0 s2 s3
          go_wp2_with fail
          go_roundw
          case rel => exact ⟨k + 1, v, Q, by go_num, by omega, HS1, hqo, HQ6⟩
          case measure => simp [intOf]; omega
        · have hd : (y.bind == 0) = false := by simp [hbd]
          have hd2 : (y.bind != 0) = true := by simp [hbd]
          go_wp2_with fail
          refine HCT.out.mono ?_
          clear HCT
          rintro e _ ⟨rfl, rfl⟩
          cases t with
          | true =>
            have HS1 : Hid (startQ K [] (ms.take (k + 1)) = putQ Q y.loc) := by
              show _ = _
              rw [HNX.out, HST.out]; simp [hbd]
            clear HNX HST hbd HQ6 hqo
            go_wp2_with fail
            refine HPT.out.mono ?_
            clear HPT s0 s1 s2 s3 hd hd2
            rintro e w7 ⟨rfl, v', hq7⟩
            have HQS := hidden hq7
            clear hq7
            go_wp2_with fail
            go_roundw
            case rel => exact ⟨k + 1, v', _, by go_num, by omega, HS1, HQ7, HQS⟩
            case measure => simp [intOf]; omega
          | false =>
            have HS1 : Hid (startQ K [] (ms.take (k + 1)) = Q) := by
              show _ = _
              rw [HNX.out, HST.out]; simp
            clear HNX HST HPT HQ7 hbd s0 s1 s2 s3
            go_wp2_with fail
            go_roundw
            case rel => exact ⟨k + 1, v, Q, by go_num, by omega, HS1, hqo, HQ6⟩
            case measure => simp [intOf]; omega
      · have hilt : ¬ (k : Int) < (m : Int) := by omega
        have hst2 : startQ K [] ms = Q := by
          have := hst.out
          rwa [List.take_of_length_le (by rw [← HM.out]; omega)] at this
        have HRE := hidden (HRB.out Q hst2)
        have HQU := hidden (Que.start (adj := adj) hqo.out)
        obtain ⟨s0, hs0⟩ : ∃ q, marksQ n Q = q := ⟨_, rfl⟩
        have hsl : s0.length = n := by rw [← hs0, marksQ_length]
        rw [hs0] at HRE HQU
        have HSL := hidden hsl
        have HNE := hidden (next_any wc wr v Q 0 hqs.out (Nat.zero_le _) (Nat.le_trans hqo.out.few (by omega)))
        clear hlt hk hst hst2 hqo hqs HRB hs0 hsl
        go_wp2_with fail
        refine HNE.out.mono ?_
        clear HNE hilt
        rintro e w5 ⟨kv, ok, rfl, hsq⟩
        have HSQ := hidden hsq
        clear hsq
        go_wp2_with fail
        go_loopw [8, 9] (fun kvv okv wr => ∃ (kv : Int) (ok : Bool) (p : Nat) (v : Value) (Q : List Int), kvv = .int .i64 kv ∧ okv = .bool ok ∧ Hid (Que adj n s0 Q p) ∧ Hid (StQ wc wr v Q p kv ok)) (fun _ okv wr => leftQ n wc.heap.size okv wr)
        case atStart => exact ⟨kv, ok, 0, v, Q, rfl, rfl, HQU, HSQ⟩
        case round =>
          obtain ⟨kv, ok, p, v, Q, rfl, rfl, hqu, hsq⟩ := hrel
          clear HQU HSQ
          cases ok with
          | true =>
            obtain ⟨hkp, hqs⟩ := hsq.out
            have HLF := hidden (hsq.out.left (n := n))
            have hpq : p < Q.length := (List.getElem?_eq_some_iff.1 hkp).1
            have hfew := hqu.out.ok.few
            obtain ⟨hk0, hk1⟩ := hqu.out.ok.inn kv (List.mem_of_getElem? hkp)
            obtain ⟨kn, rfl⟩ := Int.eq_ofNat_of_zero_le hk0
            have hkn : kn < n := by simpa using hk1
            have hki : (kn : Int) < (n : Int) := by omega
            have hkl : kn < l.length := by rw [← HN.out]; exact hkn
            obtain ⟨y, hy⟩ : ∃ y, l[kn] = y := ⟨_, rfl⟩
            have hy2 : l[kn]? = some y := by rw [List.getElem?_eq_getElem hkl, hy]
            have hym := List.mem_of_getElem? hy2
            obtain ⟨hnf6, hto⟩ := HFT.out y hym
            have HTO := hidden hto
            obtain ⟨lk, hlk⟩ : ∃ q, (y.s.fixs.map fun f => locAt ms f.to) = q := ⟨_, rfl⟩
            have HAT : Hid (adj[kn]? = some lk) := by show _ = _; rw [HADJ.out kn y hy2, hlk]
            have HLK : Hid (∀ (j : Nat) (f : Fx), y.s.fixs[j]? = some f → lk[j]? = some (locAt ms f.to)) := fun j f hf => by rw [← hlk, List.getElem?_map, hf]; rfl
            have HLN : Hid (lk.length = y.s.fixs.length) := by show _ = _; rw [← hlk, List.length_map]
            obtain ⟨x0, _⟩ := HX.out wr hqs.below
            have hfx := (H13.out wr hqs.below).fixs y hym
            obtain ⟨b, off, rfl, hbB, -, -, -, -, -, p5⟩ := (H13.out wr hqs.below).at_ hkl
            rw [hy] at p5
            obtain ⟨FS, hfs⟩ : ∃ q, y.s.fixs = q := ⟨_, rfl⟩
            rw [hfs] at HTO HLK HLN hnf6 hfx p5
            obtain ⟨nf, hnf⟩ : ∃ q, FS.length = q := ⟨_, rfl⟩
            rw [hnf] at hnf6 HLN p5
            have HNF := hidden hnf
            obtain ⟨ya, hya⟩ : ∃ q, y.a2 = q := ⟨_, rfl⟩
            obtain ⟨yc, hyc⟩ : ∃ q, y.c2 = q := ⟨_, rfl⟩
            rw [hya] at hfx p5
            rw [hyc] at p5
            have HFX : Hid (∀ W, Below wc.heap.size wc W → Fixs W wc.heap.size ya FS) := fun W hW => by
              have := (H13.out W hW).fixs y hym
              rwa [hya, hfs] at this
            have HKP : Hid (Q[p]? = some (kn : Int)) := hkp
            have HQS := hidden hqs
            have HLE : Hid (∀ w ∈ lk.take 0, 0 ≤ w → w ∈ Q) := by show ∀ w ∈ lk.take 0, _; simp
            have HPQ : Hid (p ≤ n) := by show _ ≤ _; omega
            clear hkp hqs hsq hk0 hk1 hkl hy hy2 hym hto hlk hfx hbB hfs hnf hya hyc hpq hfew hkn
            go_wp2_with fail
            clear x0 p5
            go_loopw [50] (fun i wr => ∃ (j : Nat) (v : Value) (Q : List Int), i = .int .i64 j ∧ j ≤ nf ∧ Hid (Que adj n s0 Q p) ∧ Hid (Q[p]? = some (kn : Int)) ∧ Hid (∀ w ∈ lk.take j, 0 ≤ w → w ∈ Q) ∧ Hid (QS wc wr v Q (p + 1))) (fun i _ => nf - (intOf i).toNat)
            case atStart => exact ⟨0, v, Q, rfl, Nat.zero_le _, hqu, HKP, HLE, HQS⟩
            case round =>
              obtain ⟨j, v, Q, rfl, hj, hqu, hkp, hle, hqs⟩ := hrel
              clear HLE HQS HKP
              by_cases hltj : j < nf
              · have hiltj : (j : Int) < (nf : Int) := by omega
                have hjl : j < FS.length := by rw [HNF.out]; exact hltj
                obtain ⟨fb, fo, rfl, -, f0, f1, f2, f3⟩ := (HFX.out wr hqs.out.below).at_ hjl
                obtain ⟨f, hf⟩ : ∃ f, FS[j] = f := ⟨_, rfl⟩
                rw [hf] at f0 f1 f2 f3
                have hf2 : FS[j]? = some f := by rw [List.getElem?_eq_getElem hjl, hf]
                obtain ⟨ht0, ht1⟩ := HTO.out f (List.mem_of_getElem? hf2)
                obtain ⟨tn, htn⟩ := Int.eq_ofNat_of_zero_le ht0
                have htl : tn < ms.length := by omega
                have htm : (tn : Int) < (m : Int) := by have := HM.out; omega
                obtain ⟨x, hx⟩ : ∃ x, ms[tn] = x := ⟨_, rfl⟩
                have hx2 : ms[tn]? = some x := by rw [List.getElem?_eq_getElem htl, hx]
                have hloc : locAt ms f.to = x.loc := by
                  unfold locAt
                  rw [htn, Int.toNat_natCast, hx2]; rfl
                have hlj := HLK.out j f hf2
                rw [hloc] at hlj
                have hlo := HLI.out x (List.mem_of_getElem? hx2)
                have HQU2 : Hid (Que adj n s0 (putQ Q x.loc) p) := hqu.out.put hlo (fun h0 hl => hqu.out.may hkp.out (by rw [Int.toNat_natCast]; exact HAT.out) (List.mem_of_getElem? hlj) h0 hl)
                have HKP2 : Hid ((putQ Q x.loc)[p]? = some (kn : Int)) := putQ_at hkp.out
                have HLE2 : Hid (∀ w ∈ lk.take (j + 1), 0 ≤ w → w ∈ putQ Q x.loc) := fun z hz h0 => by
                  rw [take_next hlj] at hz
                  rcases List.mem_append.1 hz with hz | hz
                  · exact putQ_mem.2 (.inl (hle.out z hz h0))
                  · rw [List.mem_singleton.1 hz] at h0 ⊢
                    exact putQ_mem.2 (.inr ⟨h0, rfl⟩)
                rw [htn] at f2
                have hS : Has (wr.alloc (.cells #[.int .i64 f.pl, .int .i64 f.kind, .int .i64 (tn : Int), .int .i64 f.add] 68)) wr.heap.size 68 #[.int .i64 f.pl, .int .i64 f.kind, .int .i64 (tn : Int), .int .i64 f.add] := Has.new _ _ _
                have hq6 := hqs.out.alloc (.cells #[.int .i64 f.pl, .int .i64 f.kind, .int .i64 (tn : Int), .int .i64 f.add] 68)
                obtain ⟨W6, hW6⟩ : ∃ q, wr.alloc (.cells #[.int .i64 f.pl, .int .i64 f.kind, .int .i64 (tn : Int), .int .i64 f.add] 68) = q := ⟨_, rfl⟩
                obtain ⟨bx, hbx⟩ : ∃ q, wr.heap.size = q := ⟨_, rfl⟩
                rw [hW6, hbx] at hS
                rw [hW6] at hq6
                have g2 : W6.cell? ⟨bx, 2, none⟩ = some (.int .i64 (tn : Int)) := hS.cell 2
                obtain ⟨_, z1⟩ := HX.out W6 hq6.below
                obtain ⟨mb, mo, rfl, -, q0, q1, q2, q3⟩ := (H23.out W6 hq6.below).at_ htl
                rw [hx] at q0 q1 q2 q3
                have HPT := hidden (put_any wc W6 v Q (p + 1) hq6 x (Nat.le_trans hqu.out.ok.few (by omega)))
                have HW6 := hidden hW6
                have HBX := hidden hbx
                clear hjl hf hf2 ht0 ht1 htn htl hx hx2 hloc hlj hlo hltj hle hkp hqu hS hq6 hW6 hbx hqs
                go_upto_region 16 with fail
                rw [HW6.out, HBX.out]
                clear f0 f1 f2 f3 HW6 HBX
                go_wp2_with fail
                refine HPT.out.mono ?_
                clear HPT g2 z1 q0 q1 q2 q3
                rintro e w7 ⟨rfl, v', hq7⟩
                have HQS2 := hidden hq7
                clear hq7
                go_wp2_with fail
                go_roundw
                case rel => exact ⟨j + 1, v', _, by go_num, by omega, HQU2, HKP2, HLE2, HQS2⟩
                case measure => simp [intOf]; omega
              · have hiltj : ¬ (j : Int) < (nf : Int) := by omega
                have hpq : p < Q.length := (List.getElem?_eq_some_iff.1 hkp.out).1
                have HQU2 : Hid (Que adj n s0 Q (p + 1)) := hqu.out.next hpq (fun x lk' hx ha z hz h0 => by
                  rw [hkp.out] at hx
                  injection hx with hx
                  subst hx
                  rw [Int.toNat_natCast, HAT.out] at ha
                  injection ha with ha
                  subst ha
                  exact hle.out z (by rw [List.take_of_length_le (by rw [HLN.out]; omega)]; exact hz) h0)
                have HNE := hidden (next_any wc wr v Q (p + 1) hqs.out hpq (Nat.le_trans hqu.out.ok.few (by omega)))
                clear hltj hpq hle hkp hqu hqs
                go_wp2_with fail
                refine HNE.out.mono ?_
                clear HNE
                rintro e w8 ⟨kv', ok', rfl, hsq⟩
                have HSQ2 := hidden hsq
                have HLF2 := hidden (hsq.left (n := n))
                clear hsq
                go_wp2_with fail
                go_roundw
                case rel => exact ⟨kv', ok', p + 1, v, Q, rfl, rfl, HQU2, HSQ2⟩
                case measure =>
                  have g1 := HLF.out
                  have g2 := HLF2.out
                  have g3 := HPQ.out
                  show leftQ n wc.heap.size (.bool ok') w8 < leftQ n wc.heap.size (.bool true) _
                  rw [g1, g2]
                  cases ok' <;> simp <;> omega
          | false =>
            obtain ⟨rfl, hqs⟩ := hsq.out
            have hmq := hqu.out.done
            have hsorted := hqu.out.ok.sorted
            obtain ⟨zs, hzs⟩ : ∃ q, (Q.mergeSort fun x y => decide (x ≤ y)) = q := ⟨_, rfl⟩
            have hzl : zs.length = Q.length := by rw [← hzs, List.length_mergeSort]
            have HAZ : Hid (reachA K (l.map Sp.s) ms = zs) := by
              show _ = _
              rw [HAN.out, HRE.out, ← hmq, ← hsorted, hzs]
            have HNZ : Hid (N = Q.length) := by show _ = _; rw [← HNN.out, HAZ.out, hzl]
            have hbw : Below w.heap.size w wr := HBC.out.trans (hqs.below.mono HBC.out.size)
            rcases hqs.row.2 with ⟨rfl, hnil⟩ | ⟨g, cap, cur, rfl, hbase, hb, h1, h2, h3, h4⟩
            · have hz0 : zs = [] := List.eq_nil_of_length_eq_zero (by omega)
              have HF : Hid (AnsI w (reachA K (l.map Sp.s) ms) N (.returned (.slice none 0 0)) wr) := by
                rw [HAZ.out, HNZ.out, hnil, hz0]
                exact ⟨none, 0, rfl, rfl, World.ownsRow_nil _ _ _ _, hbw⟩
              have q0 : wr.cell? ⟨wc.heap.size, 0, none⟩ = some (.slice none 0 0) := hqs.obj.cell 0
              clear hqs hsq hqu hmq hsorted hzs hzl HAZ HNZ hbw hz0 hnil
              go_wp2_with (go_at_call 36; refine (Try.slices_Sort_int_none _ _ _).mono ?_; rintro e w3 ⟨rfl, rfl⟩)
              go_ret
              exact HF.out
            · have hH := holdsI hb h4
              have hgl : g < wr.heap.size := (Array.getElem?_eq_some_iff.1 hb).1
              have hfew := hqu.out.ok.few
              have hsort := Try.slices_Sort_int g 0 cap Q wr hH hgl (by omega)
              rw [hzs] at hsort
              obtain ⟨nq, hnq⟩ : ∃ q, Q.length = q := ⟨_, rfl⟩
              have hne : some wc.heap.size ≠ some g := hqs.obj.other hqs.row (by decide)
              have HFS : Hid (∀ (w2 : World) (x : Nat) (os : Array Obj), w2 = Go.Sort.grow (Go.Sort.putRow (Value.int .i64) (Go.Sort.ahead wr x) g 0 zs.toArray) os → w2.cell? ⟨wc.heap.size, 0, none⟩ = some (.slice (some ⟨g, 0, none⟩) nq cap) ∧ AnsI w (reachA K (l.map Sp.s) ms) N (.returned (.slice (some ⟨g, 0, none⟩) nq cap)) w2) := fun w2 x os e => by
                obtain ⟨r1, r2⟩ := sorted_rowI (base := w.heap.size) hb hzl (Nat.le_trans HBC.out.size hbase) h1 h2 h3 e
                have ho := hqs.obj.grown r2 hne
                rw [hnq] at r1 ho
                refine ⟨ho.cell 0, ?_⟩
                rw [HAZ.out, HNZ.out, hnq]
                exact ⟨_, _, rfl, by rw [hzl, hnq], r1, hbw.grown r2 hbw.size (by intro q hq; injection hq with hq; have := HBC.out.size; omega)⟩
              have q0 : wr.cell? ⟨wc.heap.size, 0, none⟩ = some (.slice (some ⟨g, 0, none⟩) nq cap) := by rw [← hnq]; exact hqs.obj.cell 0
              rw [hnq] at hsort
              have HSORT := hidden hsort
              clear hqs hsq hqu hmq hsorted hzs hzl HAZ HNZ hbw hH hgl hsort h1 h2 h3 h4 hb hbase hfew hnq hne
              go_wp2_with fail
              refine HSORT.out.mono ?_
              clear q0
              rintro e w2 ⟨rfl, x, os, hw2⟩
              obtain ⟨q0, hans⟩ := HFS.out w2 x os hw2
              have HF := hidden hans
              clear HSORT HFS hw2 hans
              go_wp2_with fail
              go_ret
              exact HF.out

end Go.Proofs.Ytdjpihbhnncahaa

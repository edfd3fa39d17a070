import Derived.Test.YtpfombelhajmlaaGreatDoorDumpW
import Derived.Test.YtpfombelhajmlaaGreatDoorRegionV
import Derived.Test.YtpfombelhajmlaaGreatDoorSecs
namespace Go.Proofs.YtpfombelhajmlaaGreatDoor
open Go.RowKit
def dumpT (l : List Sp) (ms : List Sm) : List ByteArray := if objOk (l.map Sp.s) ms then (dumpL (l.map Sp.s) ms).map strOfNums else []
theorem numT_size {n : Int} (h0 : -99999 ≤ n) (h1 : n ≤ 99999) : (strOfNums (numL n)).size ≤ 7 := by
  rw [strOfNums_size]
  unfold numL
  split
  · have := decL_length 4 (-n).toNat (by omega); rw [List.length_cons]; omega
  · have := decL_length 4 n.toNat (by omega); omega
def KeepStr (base : Nat) (W W' : World) : Prop := Below base W W' ∧ ∀ b T cs, T ≠ 9 → Has W b T cs → Has W' b T cs
theorem KeepStr.refl (base : Nat) (W : World) : KeepStr base W W := ⟨Below.refl _ _, fun _ _ _ _ h => h⟩
theorem KeepStr.trans {base : Nat} {a b c : World} (h : KeepStr base a b) (k : KeepStr base b c) : KeepStr base a c := ⟨h.1.trans k.1, fun q T cs h1 h2 => k.2 q T cs h1 (h.2 q T cs h1 h2)⟩
theorem KeepStr.below {base : Nat} {a b : World} (hb : base ≤ a.heap.size) (h : Below a.heap.size a b) : KeepStr base a b := ⟨h.mono hb, fun _ _ _ _ hh => hh.below h hh.lt⟩
theorem KeepStr.app {base : Nat} {a b : World} {v : Value} {N : Nat} {xs : List Value} (ho : a.ownsRow base 9 1 v N xs) (hb : base ≤ a.heap.size) (hg : a.grownBy b v.ownBlock) : KeepStr base a b :=
  ⟨(Below.refl _ _).grown hg hb (fun q hq => (ho.lt q hq).1), fun q T cs hT hh => hh.grown hg (fun e => by
    rcases ho.2 with ⟨rfl, _⟩ | ⟨g, cap, cur, rfl, _, hb', _⟩
    · simp [Value.ownBlock] at e
    · simp [Value.ownBlock] at e
      subst e
      exact hh.differ (show Has a q 9 cur from hb') hT rfl)⟩
structure JD4 (w0 : World) (base : Nat) (v : Value) (N : Nat) (xs : List Value) (K1 K2 K3 K4 line : ByteArray) (k : Nat) (W : World) (vals : Nat → Value) : Prop where
  low : base ≤ W.heap.size
  keep : KeepStr base w0 W
  fix : vals 0 = .string K1 ∧ vals 1 = .string K2 ∧ vals 2 = .string K3 ∧ vals 3 = .string K4 ∧ vals 4 = .string line
  row : k ≤ 6 → W.ownsRow base 9 1 v N xs
  arr : k = 6 → ∃ q, vals 5 = .slice (some ⟨q, 0, none⟩) 1 1 ∧ Has W q 9 #[.string line]
  app : k = 7 → W.ownsRow base 9 1 (vals 6) (N + 1) (xs ++ [.string line])
  fin : k = 8 → W.ownsRow base 9 1 (vals 7) (N + 1) (xs ++ [.string line])
structure JD3 (w0 : World) (base : Nat) (v : Value) (N : Nat) (xs : List Value) (K1 K2 K3 line : ByteArray) (k : Nat) (W : World) (vals : Nat → Value) : Prop where
  low : base ≤ W.heap.size
  keep : KeepStr base w0 W
  fix : vals 0 = .string K1 ∧ vals 1 = .string K2 ∧ vals 2 = .string K3 ∧ vals 3 = .string line
  row : k ≤ 5 → W.ownsRow base 9 1 v N xs
  arr : k = 5 → ∃ q, vals 4 = .slice (some ⟨q, 0, none⟩) 1 1 ∧ Has W q 9 #[.string line]
  app : k = 6 → W.ownsRow base 9 1 (vals 5) (N + 1) (xs ++ [.string line])
  fin : k = 7 → W.ownsRow base 9 1 (vals 6) (N + 1) (xs ++ [.string line])
theorem secT_text {s : Sx} {K1 K2 K3 : ByteArray} (h1 : strOfNums (numL s.kind) = K1) (h2 : strOfNums (numL s.align) = K2) (h3 : strOfNums (numL s.long) = K3) (hb : ¬ 0 < s.bytes.length) : (⟨#[115, 101, 99, 116, 105, 111, 110, 32]⟩ : ByteArray) ++ s.name ++ (⟨#[32]⟩ : ByteArray) ++ K1 ++ (⟨#[32]⟩ : ByteArray) ++ K2 ++ (⟨#[32]⟩ : ByteArray) ++ K3 = strOfNums (secT s) := by
  unfold secT
  rw [if_neg hb, List.append_nil, ← h1, ← h2, ← h3]
  conv => lhs; rw [← strOfNums_numsOf s.name]
  rw [show (⟨#[115, 101, 99, 116, 105, 111, 110, 32]⟩ : ByteArray) = strOfNums (tSec ++ [32]) from rfl, show (⟨#[32]⟩ : ByteArray) = strOfNums [32] from rfl]
  simp only [← strOfNums_append]
  simp
theorem secT_text' {s : Sx} {K1 K2 K3 K4 : ByteArray} (h1 : strOfNums (numL s.kind) = K1) (h2 : strOfNums (numL s.align) = K2) (h3 : strOfNums (numL s.long) = K3) (h4 : strOfNums (hexL s.bytes) = K4) (hb : 0 < s.bytes.length) : (⟨#[115, 101, 99, 116, 105, 111, 110, 32]⟩ : ByteArray) ++ s.name ++ (⟨#[32]⟩ : ByteArray) ++ K1 ++ (⟨#[32]⟩ : ByteArray) ++ K2 ++ (⟨#[32]⟩ : ByteArray) ++ K3 ++ (⟨#[32]⟩ : ByteArray) ++ K4 = strOfNums (secT s) := by
  unfold secT
  rw [if_pos hb, ← h1, ← h2, ← h3, ← h4]
  conv => lhs; rw [← strOfNums_numsOf s.name]
  rw [show (⟨#[115, 101, 99, 116, 105, 111, 110, 32]⟩ : ByteArray) = strOfNums (tSec ++ [32]) from rfl, show (⟨#[32]⟩ : ByteArray) = strOfNums [32] from rfl]
  simp only [← strOfNums_append]
  simp
theorem fixT_text {f : Fx} {K1 K2 K3 K4 : ByteArray} (h1 : strOfNums (numL f.pl) = K1) (h2 : strOfNums (numL f.kind) = K2) (h3 : strOfNums (numL f.to) = K3) (h4 : strOfNums (numL f.add) = K4) : (⟨#[102, 105, 120, 117, 112, 32]⟩ : ByteArray) ++ K1 ++ (⟨#[32]⟩ : ByteArray) ++ K2 ++ (⟨#[32]⟩ : ByteArray) ++ K3 ++ (⟨#[32]⟩ : ByteArray) ++ K4 = strOfNums (fixT f) := by
  unfold fixT
  rw [← h1, ← h2, ← h3, ← h4]
  rw [show (⟨#[102, 105, 120, 117, 112, 32]⟩ : ByteArray) = strOfNums (tFix ++ [32]) from rfl, show (⟨#[32]⟩ : ByteArray) = strOfNums [32] from rfl]
  simp only [← strOfNums_append]
  simp
theorem symT_text {m : Sm} {K1 K2 K3 : ByteArray} (h1 : strOfNums (numL m.bind) = K1) (h2 : strOfNums (numL m.loc) = K2) (h3 : strOfNums (numL m.value) = K3) : (⟨#[115, 121, 109, 98, 111, 108, 32]⟩ : ByteArray) ++ m.name ++ (⟨#[32]⟩ : ByteArray) ++ K1 ++ (⟨#[32]⟩ : ByteArray) ++ K2 ++ (⟨#[32]⟩ : ByteArray) ++ K3 = strOfNums (symT m) := by
  unfold symT
  rw [← h1, ← h2, ← h3]
  conv => lhs; rw [← strOfNums_numsOf m.name]
  rw [show (⟨#[115, 121, 109, 98, 111, 108, 32]⟩ : ByteArray) = strOfNums (tSym ++ [32]) from rfl, show (⟨#[32]⟩ : ByteArray) = strOfNums [32] from rfl]
  simp only [← strOfNums_append]
  simp
theorem own_only {W W' : World} {base : Nat} {T : TypeId} {size : Nat} {v : Value} {n : Nat} {xs : List Value} (h : W.ownsRow base T size v n xs) (hb : Below W.heap.size W W') : W'.ownsRow base T size v n xs :=
  h.kept (row := none) ⟨hb.os, hb.tape, hb.output, hb.size, fun i hi _ => hb.block i hi⟩ (Classical.em _)
def secLines (y : Sp) : List (List Int) := secT y.s :: y.s.fixs.map fixT
theorem dumpT_yes {l : List Sp} {ms : List Sm} (h : objOk (l.map Sp.s) ms = true) : dumpT l ms = (l.flatMap secLines).map strOfNums ++ ms.map fun m => strOfNums (symT m) := by
  unfold dumpT dumpL
  rw [if_pos h, List.map_append, List.flatMap_map, List.map_map]; rfl
theorem fm_snoc {A : Type} (f : A → List (List Int)) {l : List A} {k : Nat} {y : A} (h : l[k]? = some y) : (l.take (k + 1)).flatMap f = (l.take k).flatMap f ++ f y := by
  rw [List.take_add_one, h, List.flatMap_append]
  simp
def secsTo (ok : Bool) (l : List Sp) (k : Nat) : List ByteArray := if ok then ((l.take k).flatMap secLines).map strOfNums else []
def symsTo (ok : Bool) (l : List Sp) (ms : List Sm) (k : Nat) : List ByteArray := if ok then (l.flatMap secLines).map strOfNums ++ (ms.take k).map fun m => strOfNums (symT m) else []
theorem own_low {w : World} {base base' : Nat} {e : TypeId} {size : Nat} {v : Value} {n : Nat} {xs : List Value} (h : w.ownsRow base e size v n xs) (hb : base' ≤ base) : w.ownsRow base' e size v n xs :=
  ⟨h.1, h.2.imp id fun ⟨g, cap, cur, h1, h2, h3⟩ => ⟨g, cap, cur, h1, Nat.le_trans hb h2, h3⟩⟩
set_option maxRecDepth 100000 in
set_option maxHeartbeats 8000000 in
theorem dumpObject'_any (w : World) (B : Nat) (a1 a2 : Option Addr) (c1 c2 n m : Nat) (l : List Sp) (ms : List Sm) (hn : n = l.length) (hm : m = ms.length) (h1 : Sects w B a1 l) (h2 : Syms w B a2 ms) (hB : B ≤ w.heap.size) (hlen : n ≤ 9223372036854775807) (hlem : m ≤ 9223372036854775807)
    (hl : ∀ y ∈ l, y.s.lens) (hs : ∀ x ∈ ms, x.name.size ≤ maxLen) :
    Calls Tryz.prog 9 #[.agg #[.slice a1 n c1, .slice a2 m c2]] w fun e w' => ∃ v, e = .returned v ∧ w'.ownsRow w.heap.size 9 1 v (dumpT l ms).length ((dumpT l ms).map Value.string) ∧ Below w.heap.size w w' := by
  obtain ⟨i0, hi0, hz0, hz1, hz2⟩ := info_parts Tryz.info_str
  obtain ⟨X, hX⟩ : ∃ X : World, w.alloc (.cells #[.slice a1 n c1, .slice a2 m c2] 26) = X := ⟨_, rfl⟩
  have hbX : Below w.heap.size w X := by rw [← hX]; exact (Below.refl _ _).alloc (Nat.le_refl _) _
  have hx : Has X w.heap.size 26 #[.slice a1 n c1, .slice a2 m c2] := by rw [← hX]; exact Has.new _ _ _
  have hXs : X.heap.size = w.heap.size + 1 := by rw [← hX]; simp
  obtain ⟨base, hbase⟩ : ∃ q, X.heap.size = q := ⟨_, rfl⟩
  obtain ⟨ok, hok⟩ : ∃ ok, objOk (l.map Sp.s) ms = ok := ⟨_, rfl⟩
  have HOB : Hid (∀ W, Below base X W → Calls Tryz.prog 10 #[.agg #[.slice a1 n c1, .slice a2 m c2]] W fun e w' => e = .returned (.bool ok) ∧ Below W.heap.size W w') := fun W hW => by
    have hb := hbX.trans (hW.mono (by omega))
    have := objectValid'_any W B a1 a2 c1 c2 n m l ms hn hm (h1.below (hb.mono hB)) (h2.below (hb.mono hB)) (Nat.le_trans hB hb.size) hlen hlem hl hs
    rwa [hok] at this
  have HC : Hid (∀ W, Below base X W → W.cell? ⟨w.heap.size, 0, none⟩ = some (.slice a1 n c1) ∧ W.cell? ⟨w.heap.size, 1, none⟩ = some (.slice a2 m c2)) := fun W hW => ⟨(hW.cell (by show w.heap.size < _; omega)).trans (hx.cell 0), (hW.cell (by show w.heap.size < _; omega)).trans (hx.cell 1)⟩
  have H1 : Hid (∀ W, Below base X W → Sects W B a1 l) := fun W hW => h1.below ((hbX.trans (hW.mono (by omega))).mono hB)
  have H2 : Hid (∀ W, Below base X W → Syms W B a2 ms) := fun W hW => h2.below ((hbX.trans (hW.mono (by omega))).mono hB)
  have HTOLD : Hid (ok = true → ObjTold l ms) := fun e => objOk_told (by rw [hok, e])
  have HBX : Hid (B ≤ base) := by show _ ≤ _; omega
  have HBL : Hid (w.heap.size ≤ base) := by show _ ≤ _; omega
  have HBS : Hid (base ≤ X.heap.size) := by show _ ≤ _; omega
  have HXB := hidden hbX
  have HOK := hidden hok
  have HN := hidden hn
  have HM := hidden hm
  have HX := hidden hX
  have hrow0 : Hid ((X.alloc (.cells #[] 9)).ownsRow base 9 1 (.slice (some ⟨w.heap.size + 1, 0, none⟩) 0 0) 0 []) := by
    have := World.ownsRow_lit (base := base) (e := 9) (size := 1) X #[] 0 (by omega) (by unfold maxLen; omega) rfl
    rwa [hXs] at this
  have hb0 : Hid (Below base X (X.alloc (.cells #[] 9))) := (Below.refl _ _).alloc (by omega) _
  clear hX hx hXs hbase hok hn hm h1 h2 hB hl hs hbX
  go_enter Tryz.func9, Tryz.ntmps9
  go_wp2_with fail
  rw [HX.out]
  go_loopw [3, 4] (fun v i wr => ∃ (k : Nat) (S : List ByteArray), i = .int .i64 k ∧ k ≤ n ∧ Hid (S = secsTo ok l k) ∧ Hid (wr.ownsRow base 9 1 v S.length (S.map Value.string)) ∧ Hid (Below base X wr) ∧ S.length ≤ 7 * k ∧ S.length ≤ 100) (fun _ i _ => n - (intOf i).toNat)
  case atStart => exact ⟨0, [], rfl, Nat.zero_le _, (by show _ = _; unfold secsTo; split <;> rfl), hrow0.out, hb0.out, by simp, by simp⟩
  case round =>
    obtain ⟨k, S, rfl, hk, hS, hrow, hb, hSl, hSm⟩ := hrel
    clear hrow0 hb0
    have x0 := (HC.out wr hb.out).1
    have x1 := (HC.out wr hb.out).2
    by_cases hlt : k < n
    · have hi : (k : Int) < (n : Int) := by omega
      have HV := hidden (HOB.out wr hb.out)
      go_wp2_with fail
      refine HV.out.mono ?_
      clear HV x0 x1
      rintro e w5 ⟨rfl, hb5⟩
      have HB5 := hidden (hb.out.trans (hb5.mono (Nat.le_trans HBS.out hb.out.size)))
      have HR5 := hidden (own_only hrow.out hb5)
      clear hb5 hrow hb
      rcases ok with _ | _
      · have hS0 : S = [] := by rw [hS.out]; rfl
        subst hS0
        have hrow2 := HR5
        have hb2 := HB5
        have x0 := (HC.out w5 HB5.out).1
        have x1 := (HC.out w5 HB5.out).2
        clear hS HR5 HB5 hSl hSm
        go_wp2_with fail
        clear hi x0 x1
        go_loopw [3, 9] (fun v i wr => i = .int .i64 ((0 : Nat) : Int) ∧ Hid (wr.ownsRow base 9 1 v 0 []) ∧ Hid (Below base X wr)) (fun _ _ _ => 0)
        case atStart => exact ⟨rfl, hrow2, hb2⟩
        case round =>
          clear hrow2 hb2
          obtain ⟨rfl, hrow, hb⟩ := hrel
          have x0 := (HC.out wr hb.out).1
          have x1 := (HC.out wr hb.out).2
          have HF : Hid (dumpT l ms = []) := by show _ = _; unfold dumpT; rw [HOK.out]; rfl
          by_cases hlt : 0 < m
          · have hi : (0 : Int) < (m : Int) := by omega
            have HV := hidden (HOB.out wr hb.out)
            go_wp2_with fail
            refine HV.out.mono ?_
            clear HV x0 x1
            rintro e w6 ⟨rfl, hb6⟩
            have HB6 := hidden (hb.out.trans (hb6.mono (Nat.le_trans HBS.out hb.out.size)))
            have HR6 := hidden (own_only hrow.out hb6)
            clear hb6 hrow hb
            go_wp2_with fail
            go_ret
            rw [HF.out]
            exact ⟨_, rfl, own_low HR6.out HBL.out, HXB.out.trans (HB6.out.mono HBL.out)⟩
          · have hi : ¬ (0 : Int) < (m : Int) := by omega
            go_wp2_with fail
            go_ret
            rw [HF.out]
            exact ⟨_, rfl, own_low hrow.out HBL.out, HXB.out.trans (hb.out.mono HBL.out)⟩
      · skip
        have x0 := (HC.out w5 HB5.out).1
        have hkl : k < l.length := by rw [← HN.out]; exact hlt
        obtain ⟨b, off, rfl, hbB, hp⟩ := (H1.out w5 HB5.out).at_ hkl
        obtain ⟨y, hy⟩ : ∃ y, l[k] = y := ⟨_, rfl⟩
        rw [hy] at hp
        obtain ⟨p0, p1, p2, p3, p4, p5⟩ := hp
        have hy2 : Hid (l[k]? = some y) := by show _ = _; rw [List.getElem?_eq_getElem hkl, hy]
        have hym : Hid (y ∈ l) := by show _ ∈ _; rw [← hy]; exact List.getElem_mem hkl
        have ht := HTOLD.out rfl
        have hn8 : n ≤ 8 := by rw [HN.out]; exact ht.secs
        obtain ⟨hno, hy48, hy6, hlg0, hlg1, -⟩ := sect_parts (ht.sec y hym.out)
        obtain ⟨⟨k0, k1'⟩, ⟨g0, g1⟩, -⟩ := sect_bytes (ht.sec y hym.out)
        have hnear := hidden (sect_near (ht.sec y hym.out) (by have := ht.syms; omega))
        have hns := ((nameOk_iff _).1 hno).1.2
        rw [Array.length_toList] at hns
        change y.s.name.size ≤ 8 at hns
        obtain ⟨nf, hnf⟩ : ∃ q, y.s.fixs.length = q := ⟨_, rfl⟩
        have HNF := hidden hnf
        have hnf6 : nf ≤ 6 := by rw [← hnf]; exact hy6
        clear hnf
        have HSZ : Hid (∀ W, Calls Tryz.prog 30 #[.agg #[.string y.s.name, .int .i64 y.s.kind, .int .i64 y.s.align, .slice y.a1 y.s.bytes.length y.c1, .int .i64 y.s.size, .slice y.a2 y.s.fixs.length y.c2]] W fun e w' => e = .returned (.int .i64 y.s.long) ∧ Below W.heap.size W w') := fun W => sectionSize'_any W y.s y.a1 y.c1 y.a2 y.c2 (by omega)
        obtain ⟨K1, hK1⟩ : ∃ q, strOfNums (numL (y.s.kind)) = q := ⟨_, rfl⟩
        have k1 : K1.size ≤ 7 := by rw [← hK1]; exact numT_size (by omega) (by omega)
        have HK1 : Hid (∀ W, Calls Tryz.prog 29 #[.int .i64 (y.s.kind)] W fun e w' => e = .returned (.string K1) ∧ Below W.heap.size W w') := fun W => by
          have := l8Number_any W (y.s.kind) (by omega) (by omega)
          rwa [hK1] at this
        obtain ⟨K2, hK2⟩ : ∃ q, strOfNums (numL (y.s.align)) = q := ⟨_, rfl⟩
        have k2 : K2.size ≤ 7 := by rw [← hK2]; exact numT_size (by omega) (by omega)
        have HK2 : Hid (∀ W, Calls Tryz.prog 29 #[.int .i64 (y.s.align)] W fun e w' => e = .returned (.string K2) ∧ Below W.heap.size W w') := fun W => by
          have := l8Number_any W (y.s.align) (by omega) (by omega)
          rwa [hK2] at this
        obtain ⟨K3, hK3⟩ : ∃ q, strOfNums (numL (y.s.long)) = q := ⟨_, rfl⟩
        have k3 : K3.size ≤ 7 := by rw [← hK3]; exact numT_size (by omega) (by omega)
        have HK3 : Hid (∀ W, Calls Tryz.prog 29 #[.int .i64 (y.s.long)] W fun e w' => e = .returned (.string K3) ∧ Below W.heap.size W w') := fun W => by
          have := l8Number_any W (y.s.long) (by omega) (by omega)
          rwa [hK3] at this
        have hsp : (⟨#[32]⟩ : ByteArray).size = 1 := rfl
        have hps : (⟨#[115, 101, 99, 116, 105, 111, 110, 32]⟩ : ByteArray).size = 8 := rfl
        have hpf : (⟨#[102, 105, 120, 117, 112, 32]⟩ : ByteArray).size = 6 := rfl
        have hpy : (⟨#[115, 121, 109, 98, 111, 108, 32]⟩ : ByteArray).size = 7 := rfl
        have zA0 : ¬ 9223372036854775807 < 8 + y.s.name.size := by omega
        obtain ⟨A0, hA0⟩ : ∃ q : ByteArray, (⟨#[115, 101, 99, 116, 105, 111, 110, 32]⟩ : ByteArray) ++ y.s.name = q := ⟨_, rfl⟩
        have sA0 : A0.size ≤ 16 := by rw [← hA0, ByteArray.size_append]; omega
        have zA1 : ¬ 9223372036854775807 < A0.size + 1 := by omega
        obtain ⟨A1, hA1⟩ : ∃ q : ByteArray, A0 ++ (⟨#[32]⟩ : ByteArray) = q := ⟨_, rfl⟩
        have sA1 : A1.size ≤ 17 := by rw [← hA1, ByteArray.size_append]; omega
        have zA2 : ¬ 9223372036854775807 < A1.size + K1.size := by omega
        obtain ⟨A2, hA2⟩ : ∃ q : ByteArray, A1 ++ K1 = q := ⟨_, rfl⟩
        have sA2 : A2.size ≤ 24 := by rw [← hA2, ByteArray.size_append]; omega
        have zA3 : ¬ 9223372036854775807 < A2.size + 1 := by omega
        obtain ⟨A3, hA3⟩ : ∃ q : ByteArray, A2 ++ (⟨#[32]⟩ : ByteArray) = q := ⟨_, rfl⟩
        have sA3 : A3.size ≤ 25 := by rw [← hA3, ByteArray.size_append]; omega
        have zA4 : ¬ 9223372036854775807 < A3.size + K2.size := by omega
        obtain ⟨A4, hA4⟩ : ∃ q : ByteArray, A3 ++ K2 = q := ⟨_, rfl⟩
        have sA4 : A4.size ≤ 32 := by rw [← hA4, ByteArray.size_append]; omega
        have zA5 : ¬ 9223372036854775807 < A4.size + 1 := by omega
        obtain ⟨A5, hA5⟩ : ∃ q : ByteArray, A4 ++ (⟨#[32]⟩ : ByteArray) = q := ⟨_, rfl⟩
        have sA5 : A5.size ≤ 33 := by rw [← hA5, ByteArray.size_append]; omega
        have zA6 : ¬ 9223372036854775807 < A5.size + K3.size := by omega
        obtain ⟨A6, hA6⟩ : ∃ q : ByteArray, A5 ++ K3 = q := ⟨_, rfl⟩
        have sA6 : A6.size ≤ 40 := by rw [← hA6, ByteArray.size_append]; omega
        obtain ⟨NS, hNS⟩ : ∃ q, S.length = q := ⟨_, rfl⟩
        obtain ⟨XS, hXS⟩ : ∃ q, S.map Value.string = q := ⟨_, rfl⟩
        have HNS := hidden hNS
        have HXS := hidden hXS
        rw [hNS] at HR5 hSl hSm
        rw [hXS] at HR5
        obtain ⟨wv, hwv⟩ : ∃ q, w5.alloc (.cells #[.string y.s.name, .int .i64 y.s.kind, .int .i64 y.s.align, .slice y.a1 y.s.bytes.length y.c1, .int .i64 y.s.size, .slice y.a2 y.s.fixs.length y.c2] 52) = q := ⟨_, rfl⟩
        obtain ⟨sb, hsb⟩ : ∃ q, w5.heap.size = q := ⟨_, rfl⟩
        have hxv : Hid (Has wv sb 52 #[.string y.s.name, .int .i64 y.s.kind, .int .i64 y.s.align, .slice y.a1 y.s.bytes.length y.c1, .int .i64 y.s.size, .slice y.a2 y.s.fixs.length y.c2]) := by show Has _ _ _ _; rw [← hwv, ← hsb]; exact Has.new _ _ _
        have hbwv : Below w5.heap.size w5 wv := by rw [← hwv]; exact (Below.refl _ _).alloc (Nat.le_refl _) _
        have HBV := hidden (HB5.out.trans (hbwv.mono (Nat.le_trans HBS.out HB5.out.size)))
        have HRV := hidden (own_only HR5.out hbwv)
        clear hNS hXS hbwv HR5 hy hkl ht hno
        go_upto_region 6 with fail
        try rw [hwv]
        try rw [hsb]
        clear hwv hsb HB5 p0 p1 p2 p3 p4 p5 x0
        refine wp_region_seq (by kernel_rfl) (fun W => Below wv.heap.size wv W) (by kernel_rfl) (Below.refl _ _).drew ?_
        refine SeqV.step (.pointer (some ⟨sb, 0, none⟩)) (by rfl) (fun W hW => ?_) ?_
        · unfold Oper.wp
          simp [go_sem]
          try exact hW
        simp only [Act.put, List.setIfInBounds_toArray, List.set_cons_succ, List.set_cons_zero]
        refine SeqV.step (.string y.s.name) (by rfl) (fun W hW => ?_) ?_
        · have q1 := ((hxv.out.below hW hxv.out.lt).cell 0 : W.cell? ⟨sb, 0, none⟩ = some (.string y.s.name))
          unfold Oper.wp
          simp [go_sem, q1]
          try exact hW
        simp only [Act.put, List.setIfInBounds_toArray, List.set_cons_succ, List.set_cons_zero]
        refine SeqV.step (.string A0) (by rfl) (fun W hW => ?_) ?_
        · unfold Oper.wp
          simp [go_sem, zA0, hA0]
          try exact hW
        simp only [Act.put, List.setIfInBounds_toArray, List.set_cons_succ, List.set_cons_zero]
        refine SeqV.step (.string A1) (by rfl) (fun W hW => ?_) ?_
        · unfold Oper.wp
          simp [go_sem, zA1, hA1]
          try exact hW
        simp only [Act.put, List.setIfInBounds_toArray, List.set_cons_succ, List.set_cons_zero]
        refine SeqV.step (.pointer (some ⟨sb, 1, none⟩)) (by rfl) (fun W hW => ?_) ?_
        · unfold Oper.wp
          simp [go_sem]
          try exact hW
        simp only [Act.put, List.setIfInBounds_toArray, List.set_cons_succ, List.set_cons_zero]
        refine SeqV.step (.int .i64 y.s.kind) (by rfl) (fun W hW => ?_) ?_
        · have q1 := ((hxv.out.below hW hxv.out.lt).cell 1 : W.cell? ⟨sb, 1, none⟩ = some (.int .i64 y.s.kind))
          unfold Oper.wp
          simp [go_sem, q1]
          try exact hW
        simp only [Act.put, List.setIfInBounds_toArray, List.set_cons_succ, List.set_cons_zero]
        refine SeqV.step (.string K1) (by rfl) (fun W hW => ?_) ?_
        · unfold Oper.wp
          simp [go_sem]
          refine (HK1.out W).mono ?_; rintro e w' ⟨rfl, hb⟩; exact ⟨rfl, hW.trans (hb.mono hW.size)⟩
        simp only [Act.put, List.setIfInBounds_toArray, List.set_cons_succ, List.set_cons_zero]
        refine SeqV.step (.string A2) (by rfl) (fun W hW => ?_) ?_
        · unfold Oper.wp
          simp [go_sem, zA2, hA2]
          try exact hW
        simp only [Act.put, List.setIfInBounds_toArray, List.set_cons_succ, List.set_cons_zero]
        refine SeqV.step (.string A3) (by rfl) (fun W hW => ?_) ?_
        · unfold Oper.wp
          simp [go_sem, zA3, hA3]
          try exact hW
        simp only [Act.put, List.setIfInBounds_toArray, List.set_cons_succ, List.set_cons_zero]
        refine SeqV.step (.pointer (some ⟨sb, 2, none⟩)) (by rfl) (fun W hW => ?_) ?_
        · unfold Oper.wp
          simp [go_sem]
          try exact hW
        simp only [Act.put, List.setIfInBounds_toArray, List.set_cons_succ, List.set_cons_zero]
        refine SeqV.step (.int .i64 y.s.align) (by rfl) (fun W hW => ?_) ?_
        · have q1 := ((hxv.out.below hW hxv.out.lt).cell 2 : W.cell? ⟨sb, 2, none⟩ = some (.int .i64 y.s.align))
          unfold Oper.wp
          simp [go_sem, q1]
          try exact hW
        simp only [Act.put, List.setIfInBounds_toArray, List.set_cons_succ, List.set_cons_zero]
        refine SeqV.step (.string K2) (by rfl) (fun W hW => ?_) ?_
        · unfold Oper.wp
          simp [go_sem]
          refine (HK2.out W).mono ?_; rintro e w' ⟨rfl, hb⟩; exact ⟨rfl, hW.trans (hb.mono hW.size)⟩
        simp only [Act.put, List.setIfInBounds_toArray, List.set_cons_succ, List.set_cons_zero]
        refine SeqV.step (.string A4) (by rfl) (fun W hW => ?_) ?_
        · unfold Oper.wp
          simp [go_sem, zA4, hA4]
          try exact hW
        simp only [Act.put, List.setIfInBounds_toArray, List.set_cons_succ, List.set_cons_zero]
        refine SeqV.step (.string A5) (by rfl) (fun W hW => ?_) ?_
        · unfold Oper.wp
          simp [go_sem, zA5, hA5]
          try exact hW
        simp only [Act.put, List.setIfInBounds_toArray, List.set_cons_succ, List.set_cons_zero]
        refine SeqV.step (.agg #[.string y.s.name, .int .i64 y.s.kind, .int .i64 y.s.align, .slice y.a1 y.s.bytes.length y.c1, .int .i64 y.s.size, .slice y.a2 y.s.fixs.length y.c2]) (by rfl) (fun W hW => ?_) ?_
        · have q0 := ((hxv.out.below hW hxv.out.lt).cell 0 : W.cell? ⟨sb, 0, none⟩ = some (.string y.s.name))
          have q1 := ((hxv.out.below hW hxv.out.lt).cell 1 : W.cell? ⟨sb, 1, none⟩ = some (.int .i64 y.s.kind))
          have q2 := ((hxv.out.below hW hxv.out.lt).cell 2 : W.cell? ⟨sb, 2, none⟩ = some (.int .i64 y.s.align))
          have q3 := ((hxv.out.below hW hxv.out.lt).cell 3 : W.cell? ⟨sb, 3, none⟩ = some (.slice y.a1 y.s.bytes.length y.c1))
          have q4 := ((hxv.out.below hW hxv.out.lt).cell 4 : W.cell? ⟨sb, 4, none⟩ = some (.int .i64 y.s.size))
          have q5 := ((hxv.out.below hW hxv.out.lt).cell 5 : W.cell? ⟨sb, 5, none⟩ = some (.slice y.a2 y.s.fixs.length y.c2))
          unfold Oper.wp
          simp [go_sem, q0, q1, q2, q3, q4, q5]
          try exact hW
        simp only [Act.put, List.setIfInBounds_toArray, List.set_cons_succ, List.set_cons_zero]
        refine SeqV.step (.int .i64 y.s.long) (by rfl) (fun W hW => ?_) ?_
        · unfold Oper.wp
          simp [go_sem]
          refine (HSZ.out W).mono ?_; rintro e w' ⟨rfl, hb⟩; exact ⟨rfl, hW.trans (hb.mono hW.size)⟩
        simp only [Act.put, List.setIfInBounds_toArray, List.set_cons_succ, List.set_cons_zero]
        refine SeqV.step (.string K3) (by rfl) (fun W hW => ?_) ?_
        · unfold Oper.wp
          simp [go_sem]
          refine (HK3.out W).mono ?_; rintro e w' ⟨rfl, hb⟩; exact ⟨rfl, hW.trans (hb.mono hW.size)⟩
        simp only [Act.put, List.setIfInBounds_toArray, List.set_cons_succ, List.set_cons_zero]
        refine SeqV.step (.string A6) (by rfl) (fun W hW => ?_) ?_
        · unfold Oper.wp
          simp [go_sem, zA6, hA6]
          try exact hW
        simp only [Act.put, List.setIfInBounds_toArray, List.set_cons_succ, List.set_cons_zero]
        refine SeqV.step (.string A6) (by rfl) (fun W hW => ?_) ?_
        · unfold Oper.wp
          simp [go_sem]
          try exact hW
        simp only [Act.put, List.setIfInBounds_toArray, List.set_cons_succ, List.set_cons_zero]
        intro W hW
        have HBW := hidden (HBV.out.trans (hW.mono (Nat.le_trans HBS.out HBV.out.size)))
        have HRW := hidden (own_only HRV.out hW)
        have HSB := hidden (hxv.out.below hW hxv.out.lt)
        clear hW HBV HRV hxv HSZ HK1 HK2 HK3
        have x3 : W.cell? ⟨sb, 3, none⟩ = some (.slice y.a1 y.s.bytes.length y.c1) := HSB.out.cell 3
        obtain ⟨nb, hnb⟩ : ∃ q, y.s.bytes.length = q := ⟨_, rfl⟩
        rw [hnb] at x3
        have HNB := hidden hnb
        by_cases hbyt : 0 < nb
        · have hbi : (0 : Int) < (nb : Int) := by omega
          have hi3 := (H1.out W HBW.out).bytes y hym.out
          have HHX := hidden (hexText'_any W B y.a1 y.c1 nb y.s.bytes hnb.symm hi3 (Nat.le_trans HBX.out (Nat.le_trans HBS.out HBW.out.size)) (by omega))
          obtain ⟨K4, hK4⟩ : ∃ q, strOfNums (hexL y.s.bytes) = q := ⟨_, rfl⟩
          have k4 : K4.size ≤ 96 := by rw [← hK4, strOfNums_size, hexL_length, hnb]; omega
          rw [hK4] at HHX
          have zA7 : ¬ 9223372036854775807 < A6.size + 1 := by omega
          obtain ⟨A7, hA7⟩ : ∃ q : ByteArray, A6 ++ (⟨#[32]⟩ : ByteArray) = q := ⟨_, rfl⟩
          have sA7 : A7.size ≤ 100 := by rw [← hA7, ByteArray.size_append]; omega
          have zA8 : ¬ 9223372036854775807 < A7.size + K4.size := by omega
          obtain ⟨A8, hA8⟩ : ∃ q : ByteArray, A7 ++ K4 = q := ⟨_, rfl⟩
          have ALN : Hid (A8 = strOfNums (secT y.s)) := by
            show _ = _
            rw [← secT_text' hK1 hK2 hK3 hK4 (by rw [hnb]; exact hbyt), ← hA8, ← hA7, ← hA6, ← hA5, ← hA4, ← hA3, ← hA2, ← hA1, ← hA0]
          clear hi3 hnb hK1 hK2 hK3 hK4 hA0 hA1 hA2 hA3 hA4 hA5 hA6
          go_wp2_with fail
          refine HHX.out.mono ?_
          clear HHX x3
          rintro e w8 ⟨rfl, hb8⟩
          have HBW' := hidden (HBW.out.trans (hb8.mono (Nat.le_trans HBS.out HBW.out.size)))
          have HRW' := hidden (own_only HRW.out hb8)
          have HSB' := hidden (HSB.out.below hb8 HSB.out.lt)
          clear HBW HRW HSB hb8
          have HBW := HBW'
          have HRW := HRW'
          have HSB := HSB'
          clear HBW' HRW' HSB'
          have HO := hidden (HRW.out.alloc (.cells #[.string A8] 9))
          have hlow : Hid (∀ q, Value.ownBlock u3 = some q → base ≤ q) := fun q hq => (HRW.out.lt q hq).1
          have hbw1 := hidden (HBW.out.alloc (Nat.le_trans HBS.out HBW.out.size) (.cells #[.string A8] 9))
          have HSB1 := hidden (HSB.out.alloc (.cells #[.string A8] 9))
          have hbsz : base ≤ (w8.alloc (.cells #[.string A8] 9)).heap.size := Nat.le_trans (Nat.le_trans HBS.out HBW.out.size) (by simp)
          clear HRW HBW HSB
          go_wp2_with (at_builtin; refine wpList_append_own _ rfl _ _ 28 rfl base 9 i0 (.string ⟨#[]⟩) 1 16 Tryz.underlying28 hi0 hz0 hz1 hz2 rfl (by decide) _ _ _ rfl HO.out ⟨w8.heap.size, 0, none⟩ 1 1 [.string A8] rfl rfl (fun t u ht => by
              match t, ht with
              | 0, ht => simp at ht; subst ht; simp [Addr.add]) (by intro u hu; simp at hu; subst hu; rfl) (by unfold maxLen; omega) (by omega) hbsz ?_)
          intro v' w9 hown hg _
          have HR9 : Hid (w9.ownsRow base 9 1 v' (S ++ [A8]).length ((S ++ [A8]).map Value.string)) := by
            show w9.ownsRow _ _ _ _ _ _
            rw [List.length_append, HNS.out, List.map_append, HXS.out]; exact hown
          have HB9 := hidden (hbw1.out.trans (KeepStr.app HO.out hbsz hg).1)
          have HS9 := hidden ((KeepStr.app HO.out hbsz hg).2 _ _ _ (by decide) HSB1.out)
          clear hown hg HO hlow hbw1 HSB1 hbsz
          go_wp2_with fail
          go_loopw [3, 7] (fun v i wr => ∃ (j : Nat) (Q : List ByteArray), i = .int .i64 j ∧ j ≤ nf ∧ Hid (Q = S ++ (A8 :: (y.s.fixs.take j).map fun f => strOfNums (fixT f))) ∧ Hid (wr.ownsRow base 9 1 v Q.length (Q.map Value.string)) ∧ Hid (Below base X wr) ∧ Hid (Has wr sb 52 #[.string y.s.name, .int .i64 y.s.kind, .int .i64 y.s.align, .slice y.a1 y.s.bytes.length y.c1, .int .i64 y.s.size, .slice y.a2 y.s.fixs.length y.c2]) ∧ Q.length ≤ 7 * k + 1 + j) (fun _ i _ => nf - (intOf i).toNat)
          case atStart => exact ⟨0, S ++ [A8], rfl, Nat.zero_le _, (by show _ = _; simp), HR9.out, HB9.out, HS9.out, by rw [List.length_append, HNS.out]; simp; omega⟩
          case round =>
            clear HR9 HB9 HS9
            obtain ⟨j, Q, rfl, hj, hQ, hrow, hb, hsb, hQl⟩ := hrel
            have x5 : wr.cell? ⟨sb, 5, none⟩ = some (.slice y.a2 y.s.fixs.length y.c2) := hsb.out.cell 5
            rw [HNF.out] at x5
            by_cases hjlt : j < nf
            · have hji : (j : Int) < (nf : Int) := by omega
              have hjl : j < y.s.fixs.length := by rw [HNF.out]; exact hjlt
              obtain ⟨b2, off2, ha2, _, r0, r1, r2, r3⟩ := ((H1.out wr hb.out).fixs y hym.out).at_ hjl
              rw [ha2] at x5
              obtain ⟨f, hf⟩ : ∃ f, y.s.fixs[j] = f := ⟨_, rfl⟩
              rw [hf] at r0 r1 r2 r3
              have hf2 : y.s.fixs[j]? = some f := by rw [List.getElem?_eq_getElem hjl, hf]
              have hfn := hnear.out f (by rw [← hf]; exact List.getElem_mem hjl)
              have HQN : Hid (Q ++ [strOfNums (fixT f)] = S ++ (A8 :: (y.s.fixs.take (j + 1)).map fun f => strOfNums (fixT f))) := by
                show _ = _
                rw [hQ.out, List.take_add_one, hf2, List.map_append, List.append_assoc]; rfl
              have HTX := hidden (fun (K1 K2 K3 K4 : ByteArray) (h1 : strOfNums (numL f.pl) = K1) (h2 : strOfNums (numL f.kind) = K2) (h3 : strOfNums (numL f.to) = K3) (h4 : strOfNums (numL f.add) = K4) => fixT_text h1 h2 h3 h4)
              clear hf hf2 hjl
              obtain ⟨pl, kd, tg, ad⟩ := f
              obtain ⟨⟨n0, n1⟩, ⟨n2, n3⟩, ⟨n4, n5⟩, n6, n7⟩ := hfn
              simp only at r0 r1 r2 r3 n0 n1 n2 n3 n4 n5 n6 n7 HTX
              obtain ⟨K1, hK1⟩ : ∃ q, strOfNums (numL (pl)) = q := ⟨_, rfl⟩
              have k1 : K1.size ≤ 7 := by rw [← hK1]; exact numT_size (by omega) (by omega)
              have HK1 : Hid (∀ W, Calls Tryz.prog 29 #[.int .i64 (pl)] W fun e w' => e = .returned (.string K1) ∧ Below W.heap.size W w') := fun W => by
                have := l8Number_any W (pl) (by omega) (by omega)
                rwa [hK1] at this
              obtain ⟨K2, hK2⟩ : ∃ q, strOfNums (numL (kd)) = q := ⟨_, rfl⟩
              have k2 : K2.size ≤ 7 := by rw [← hK2]; exact numT_size (by omega) (by omega)
              have HK2 : Hid (∀ W, Calls Tryz.prog 29 #[.int .i64 (kd)] W fun e w' => e = .returned (.string K2) ∧ Below W.heap.size W w') := fun W => by
                have := l8Number_any W (kd) (by omega) (by omega)
                rwa [hK2] at this
              obtain ⟨K3, hK3⟩ : ∃ q, strOfNums (numL (tg)) = q := ⟨_, rfl⟩
              have k3 : K3.size ≤ 7 := by rw [← hK3]; exact numT_size (by omega) (by omega)
              have HK3 : Hid (∀ W, Calls Tryz.prog 29 #[.int .i64 (tg)] W fun e w' => e = .returned (.string K3) ∧ Below W.heap.size W w') := fun W => by
                have := l8Number_any W (tg) (by omega) (by omega)
                rwa [hK3] at this
              obtain ⟨K4, hK4⟩ : ∃ q, strOfNums (numL (ad)) = q := ⟨_, rfl⟩
              have k4 : K4.size ≤ 7 := by rw [← hK4]; exact numT_size (by omega) (by omega)
              have HK4 : Hid (∀ W, Calls Tryz.prog 29 #[.int .i64 (ad)] W fun e w' => e = .returned (.string K4) ∧ Below W.heap.size W w') := fun W => by
                have := l8Number_any W (ad) (by omega) (by omega)
                rwa [hK4] at this
              have hsp : (⟨#[32]⟩ : ByteArray).size = 1 := rfl
              have hps : (⟨#[115, 101, 99, 116, 105, 111, 110, 32]⟩ : ByteArray).size = 8 := rfl
              have hpf : (⟨#[102, 105, 120, 117, 112, 32]⟩ : ByteArray).size = 6 := rfl
              have hpy : (⟨#[115, 121, 109, 98, 111, 108, 32]⟩ : ByteArray).size = 7 := rfl
              have zB0 : ¬ 9223372036854775807 < 6 + K1.size := by omega
              obtain ⟨B0, hB0⟩ : ∃ q : ByteArray, (⟨#[102, 105, 120, 117, 112, 32]⟩ : ByteArray) ++ K1 = q := ⟨_, rfl⟩
              have sB0 : B0.size ≤ 13 := by rw [← hB0, ByteArray.size_append]; omega
              have zB1 : ¬ 9223372036854775807 < B0.size + 1 := by omega
              obtain ⟨B1, hB1⟩ : ∃ q : ByteArray, B0 ++ (⟨#[32]⟩ : ByteArray) = q := ⟨_, rfl⟩
              have sB1 : B1.size ≤ 14 := by rw [← hB1, ByteArray.size_append]; omega
              have zB2 : ¬ 9223372036854775807 < B1.size + K2.size := by omega
              obtain ⟨B2, hB2⟩ : ∃ q : ByteArray, B1 ++ K2 = q := ⟨_, rfl⟩
              have sB2 : B2.size ≤ 21 := by rw [← hB2, ByteArray.size_append]; omega
              have zB3 : ¬ 9223372036854775807 < B2.size + 1 := by omega
              obtain ⟨B3, hB3⟩ : ∃ q : ByteArray, B2 ++ (⟨#[32]⟩ : ByteArray) = q := ⟨_, rfl⟩
              have sB3 : B3.size ≤ 22 := by rw [← hB3, ByteArray.size_append]; omega
              have zB4 : ¬ 9223372036854775807 < B3.size + K3.size := by omega
              obtain ⟨B4, hB4⟩ : ∃ q : ByteArray, B3 ++ K3 = q := ⟨_, rfl⟩
              have sB4 : B4.size ≤ 29 := by rw [← hB4, ByteArray.size_append]; omega
              have zB5 : ¬ 9223372036854775807 < B4.size + 1 := by omega
              obtain ⟨B5, hB5⟩ : ∃ q : ByteArray, B4 ++ (⟨#[32]⟩ : ByteArray) = q := ⟨_, rfl⟩
              have sB5 : B5.size ≤ 30 := by rw [← hB5, ByteArray.size_append]; omega
              have zB6 : ¬ 9223372036854775807 < B5.size + K4.size := by omega
              obtain ⟨B6, hB6⟩ : ∃ q : ByteArray, B5 ++ K4 = q := ⟨_, rfl⟩
              have sB6 : B6.size ≤ 37 := by rw [← hB6, ByteArray.size_append]; omega
              have HLN : Hid (B6 = strOfNums (fixT ⟨pl, kd, tg, ad⟩)) := by
                show _ = _
                rw [← HTX.out K1 K2 K3 K4 hK1 hK2 hK3 hK4, ← hB6, ← hB5, ← hB4, ← hB3, ← hB2, ← hB1, ← hB0]
              rw [← HLN.out] at HQN
              obtain ⟨wf, hwf⟩ : ∃ q, wr.alloc (.cells #[.int .i64 pl, .int .i64 kd, .int .i64 tg, .int .i64 ad] 55) = q := ⟨_, rfl⟩
              obtain ⟨fb, hfb⟩ : ∃ q, wr.heap.size = q := ⟨_, rfl⟩
              have HFB : Hid (Has wf fb 55 #[.int .i64 pl, .int .i64 kd, .int .i64 tg, .int .i64 ad]) := by show Has _ _ _ _; rw [← hwf, ← hfb]; exact Has.new _ _ _
              have hbw : Below wr.heap.size wr wf := by rw [← hwf]; exact (Below.refl _ _).alloc (Nat.le_refl _) _
              have HRF := hidden (own_only hrow.out hbw)
              have hlof : base ≤ wf.heap.size := Nat.le_trans HBS.out (Nat.le_trans hb.out.size hbw.size)
              have HBF := hidden (hb.out.trans (hbw.mono (Nat.le_trans HBS.out hb.out.size)))
              have HSF := hidden (hsb.out.below hbw hsb.out.lt)
              obtain ⟨Nq, hNq⟩ : ∃ q, Q.length = q := ⟨_, rfl⟩
              obtain ⟨xq, hxq⟩ : ∃ q, Q.map Value.string = q := ⟨_, rfl⟩
              rw [hNq] at HRF hQl
              rw [hxq] at HRF
              have HNQ := hidden hNq
              have HXQ := hidden hxq
              go_upto_region 14 with fail
              obtain ⟨vq, hvq⟩ : ∃ q, u3 = q := ⟨_, rfl⟩
              rw [hvq] at HRF ⊢
              try rw [hwf]
              try rw [hfb]
              have hJ0 : Hid (JD4 wf base vq Nq xq K1 K2 K3 K4 B6 0 wf.drew fun i => if i = 0 then .string K1 else if i = 1 then .string K2 else if i = 2 then .string K3 else if i = 3 then .string K4 else .string B6) := ⟨hlof, .below hlof ⟨rfl, rfl, rfl, Nat.le_refl _, fun _ _ => rfl⟩, ⟨rfl, rfl, rfl, rfl, rfl⟩, fun _ => own_only HRF.out ⟨rfl, rfl, rfl, Nat.le_refl _, fun _ _ => rfl⟩, fun h => absurd h (by decide), fun h => absurd h (by decide), fun h => absurd h (by decide)⟩
              clear hwf hfb hvq hNq hxq hbw hQ r0 r1 r2 r3 x5 hrow hb hsb HTX HLN hK1 hK2 hK3 hK4
              refine wp_region_chain (m := 8) (js := [.quiet vq 8, .quiet (.pointer (some ⟨fb, 0, none⟩)) 8, .quiet (.int .i64 pl) 8, .chain 0, .quiet (.string B0) 8, .quiet (.string B1) 8, .quiet (.pointer (some ⟨fb, 1, none⟩)) 8, .quiet (.int .i64 kd) 8, .chain 1, .quiet (.string B2) 8, .quiet (.string B3) 8, .quiet (.pointer (some ⟨fb, 2, none⟩)) 8, .quiet (.int .i64 tg) 8, .chain 2, .quiet (.string B4) 8, .quiet (.string B5) 8, .quiet (.pointer (some ⟨fb, 3, none⟩)) 8, .quiet (.int .i64 ad) 8, .chain 3, .chain 4, .chain 5, .chain 6, .chain 7]) (by kernel_rfl) (JD4 wf base vq Nq xq K1 K2 K3 K4 B6) (by kernel_rfl) (by kernel_rfl) ⟨_, hJ0.out⟩ (fun vals => ?_) ?_
              · show SeqW _ _ _ _ _ _ _
                iterate 2
                  refine ⟨fun kk hkk W hW => ?_, ?_⟩
                  · unfold Oper.wp
                    simp [go_sem]
                    try exact ⟨_, rfl, rfl⟩
                  simp only [Act.put, List.setIfInBounds_toArray, List.set_cons_succ, List.set_cons_zero]
                refine ⟨fun kk hkk W hW => ?_, ?_⟩
                · have q1 := ((hW.keep.2 _ _ _ (by decide) HFB.out).cell 0 : W.cell? ⟨fb, 0, none⟩ = some (.int .i64 pl))
                  unfold Oper.wp
                  simp [go_sem, q1]
                  try exact ⟨_, rfl, rfl⟩
                simp only [Act.put, List.setIfInBounds_toArray, List.set_cons_succ, List.set_cons_zero]
                refine ⟨fun W hW => ?_, ?_⟩
                · unfold Oper.wp
                  simp [go_sem]
                  refine (HK1.out W).mono ?_
                  rintro e w' ⟨rfl, hb⟩
                  have hN : JD4 wf base vq Nq xq K1 K2 K3 K4 B6 1 w' (upd vals 0 (.string K1)) := ⟨Nat.le_trans hW.low hb.size, hW.keep.trans (.below hW.low hb), ⟨rfl, hW.fix.2.1, hW.fix.2.2.1, hW.fix.2.2.2.1, hW.fix.2.2.2.2⟩, fun _ => own_only (hW.row (by decide)) hb, fun h => absurd h (by decide), fun h => absurd h (by decide), fun h => absurd h (by decide)⟩
                  first | exact hN | exact ⟨_, rfl, hN⟩
                simp only [Act.put, List.setIfInBounds_toArray, List.set_cons_succ, List.set_cons_zero]
                refine ⟨fun kk hkk W hW => ?_, ?_⟩
                · have q1 := hW.fix.1
                  unfold Oper.wp
                  simp [go_sem, q1, zB0, hB0]
                  try exact ⟨_, rfl, rfl⟩
                simp only [Act.put, List.setIfInBounds_toArray, List.set_cons_succ, List.set_cons_zero]
                refine ⟨fun kk hkk W hW => ?_, ?_⟩
                · unfold Oper.wp
                  simp [go_sem, zB1, hB1]
                  try exact ⟨_, rfl, rfl⟩
                simp only [Act.put, List.setIfInBounds_toArray, List.set_cons_succ, List.set_cons_zero]
                refine ⟨fun kk hkk W hW => ?_, ?_⟩
                · unfold Oper.wp
                  simp [go_sem]
                  try exact ⟨_, rfl, rfl⟩
                simp only [Act.put, List.setIfInBounds_toArray, List.set_cons_succ, List.set_cons_zero]
                refine ⟨fun kk hkk W hW => ?_, ?_⟩
                · have q1 := ((hW.keep.2 _ _ _ (by decide) HFB.out).cell 1 : W.cell? ⟨fb, 1, none⟩ = some (.int .i64 kd))
                  unfold Oper.wp
                  simp [go_sem, q1]
                  try exact ⟨_, rfl, rfl⟩
                simp only [Act.put, List.setIfInBounds_toArray, List.set_cons_succ, List.set_cons_zero]
                refine ⟨fun W hW => ?_, ?_⟩
                · unfold Oper.wp
                  simp [go_sem]
                  refine (HK2.out W).mono ?_
                  rintro e w' ⟨rfl, hb⟩
                  have hN : JD4 wf base vq Nq xq K1 K2 K3 K4 B6 2 w' (upd vals 1 (.string K2)) := ⟨Nat.le_trans hW.low hb.size, hW.keep.trans (.below hW.low hb), ⟨hW.fix.1, rfl, hW.fix.2.2.1, hW.fix.2.2.2.1, hW.fix.2.2.2.2⟩, fun _ => own_only (hW.row (by decide)) hb, fun h => absurd h (by decide), fun h => absurd h (by decide), fun h => absurd h (by decide)⟩
                  first | exact hN | exact ⟨_, rfl, hN⟩
                simp only [Act.put, List.setIfInBounds_toArray, List.set_cons_succ, List.set_cons_zero]
                refine ⟨fun kk hkk W hW => ?_, ?_⟩
                · have q1 := hW.fix.2.1
                  unfold Oper.wp
                  simp [go_sem, q1, zB2, hB2]
                  try exact ⟨_, rfl, rfl⟩
                simp only [Act.put, List.setIfInBounds_toArray, List.set_cons_succ, List.set_cons_zero]
                refine ⟨fun kk hkk W hW => ?_, ?_⟩
                · unfold Oper.wp
                  simp [go_sem, zB3, hB3]
                  try exact ⟨_, rfl, rfl⟩
                simp only [Act.put, List.setIfInBounds_toArray, List.set_cons_succ, List.set_cons_zero]
                refine ⟨fun kk hkk W hW => ?_, ?_⟩
                · unfold Oper.wp
                  simp [go_sem]
                  try exact ⟨_, rfl, rfl⟩
                simp only [Act.put, List.setIfInBounds_toArray, List.set_cons_succ, List.set_cons_zero]
                refine ⟨fun kk hkk W hW => ?_, ?_⟩
                · have q1 := ((hW.keep.2 _ _ _ (by decide) HFB.out).cell 2 : W.cell? ⟨fb, 2, none⟩ = some (.int .i64 tg))
                  unfold Oper.wp
                  simp [go_sem, q1]
                  try exact ⟨_, rfl, rfl⟩
                simp only [Act.put, List.setIfInBounds_toArray, List.set_cons_succ, List.set_cons_zero]
                refine ⟨fun W hW => ?_, ?_⟩
                · unfold Oper.wp
                  simp [go_sem]
                  refine (HK3.out W).mono ?_
                  rintro e w' ⟨rfl, hb⟩
                  have hN : JD4 wf base vq Nq xq K1 K2 K3 K4 B6 3 w' (upd vals 2 (.string K3)) := ⟨Nat.le_trans hW.low hb.size, hW.keep.trans (.below hW.low hb), ⟨hW.fix.1, hW.fix.2.1, rfl, hW.fix.2.2.2.1, hW.fix.2.2.2.2⟩, fun _ => own_only (hW.row (by decide)) hb, fun h => absurd h (by decide), fun h => absurd h (by decide), fun h => absurd h (by decide)⟩
                  first | exact hN | exact ⟨_, rfl, hN⟩
                simp only [Act.put, List.setIfInBounds_toArray, List.set_cons_succ, List.set_cons_zero]
                refine ⟨fun kk hkk W hW => ?_, ?_⟩
                · have q1 := hW.fix.2.2.1
                  unfold Oper.wp
                  simp [go_sem, q1, zB4, hB4]
                  try exact ⟨_, rfl, rfl⟩
                simp only [Act.put, List.setIfInBounds_toArray, List.set_cons_succ, List.set_cons_zero]
                refine ⟨fun kk hkk W hW => ?_, ?_⟩
                · unfold Oper.wp
                  simp [go_sem, zB5, hB5]
                  try exact ⟨_, rfl, rfl⟩
                simp only [Act.put, List.setIfInBounds_toArray, List.set_cons_succ, List.set_cons_zero]
                refine ⟨fun kk hkk W hW => ?_, ?_⟩
                · unfold Oper.wp
                  simp [go_sem]
                  try exact ⟨_, rfl, rfl⟩
                simp only [Act.put, List.setIfInBounds_toArray, List.set_cons_succ, List.set_cons_zero]
                refine ⟨fun kk hkk W hW => ?_, ?_⟩
                · have q1 := ((hW.keep.2 _ _ _ (by decide) HFB.out).cell 3 : W.cell? ⟨fb, 3, none⟩ = some (.int .i64 ad))
                  unfold Oper.wp
                  simp [go_sem, q1]
                  try exact ⟨_, rfl, rfl⟩
                simp only [Act.put, List.setIfInBounds_toArray, List.set_cons_succ, List.set_cons_zero]
                refine ⟨fun W hW => ?_, ?_⟩
                · unfold Oper.wp
                  simp [go_sem]
                  refine (HK4.out W).mono ?_
                  rintro e w' ⟨rfl, hb⟩
                  have hN : JD4 wf base vq Nq xq K1 K2 K3 K4 B6 4 w' (upd vals 3 (.string K4)) := ⟨Nat.le_trans hW.low hb.size, hW.keep.trans (.below hW.low hb), ⟨hW.fix.1, hW.fix.2.1, hW.fix.2.2.1, rfl, hW.fix.2.2.2.2⟩, fun _ => own_only (hW.row (by decide)) hb, fun h => absurd h (by decide), fun h => absurd h (by decide), fun h => absurd h (by decide)⟩
                  first | exact hN | exact ⟨_, rfl, hN⟩
                simp only [Act.put, List.setIfInBounds_toArray, List.set_cons_succ, List.set_cons_zero]
                refine ⟨fun W hW => ?_, ?_⟩
                · have q1 := hW.fix.2.2.2.1
                  have hN : JD4 wf base vq Nq xq K1 K2 K3 K4 B6 5 W (upd vals 4 (.string B6)) := ⟨hW.low, hW.keep, ⟨hW.fix.1, hW.fix.2.1, hW.fix.2.2.1, hW.fix.2.2.2.1, rfl⟩, fun _ => hW.row (by decide), fun h => absurd h (by decide), fun h => absurd h (by decide), fun h => absurd h (by decide)⟩
                  unfold Oper.wp
                  simp [go_sem, q1, zB6, hB6]
                  first | exact hN | exact ⟨_, rfl, hN⟩
                simp only [Act.put, List.setIfInBounds_toArray, List.set_cons_succ, List.set_cons_zero]
                refine ⟨fun W hW => ?_, ?_⟩
                · have q1 := hW.fix.2.2.2.2
                  have hN : JD4 wf base vq Nq xq K1 K2 K3 K4 B6 6 (W.alloc (.cells #[.string B6] 9)) (upd vals 5 (.slice (some ⟨W.heap.size, 0, none⟩) 1 1)) := ⟨Nat.le_trans hW.low (by simp), hW.keep.trans (.below hW.low ((Below.refl _ _).alloc (Nat.le_refl _) _)), ⟨hW.fix.1, hW.fix.2.1, hW.fix.2.2.1, hW.fix.2.2.2.1, hW.fix.2.2.2.2⟩, fun _ => (hW.row (by decide)).alloc _, fun _ => ⟨W.heap.size, rfl, Has.new _ _ _⟩, fun h => absurd h (by decide), fun h => absurd h (by decide)⟩
                  unfold Oper.wp
                  simp [go_sem, q1]
                  first | exact hN | exact ⟨_, rfl, hN⟩
                simp only [Act.put, List.setIfInBounds_toArray, List.set_cons_succ, List.set_cons_zero]
                refine ⟨fun W hW => ?_, ?_⟩
                · obtain ⟨qb, hq, hqh⟩ := hW.arr rfl
                  have hro := hW.row (by decide)
                  refine wp_append_own W _ _ 28 rfl base 9 i0 (.string ⟨#[]⟩) 1 16 Tryz.underlying28 hi0 hz0 hz1 hz2 rfl (by decide) _ _ _ rfl hro ⟨qb, 0, none⟩ 1 1 [.string B6] hq rfl (fun j u hu => by
                    match j, hu with
                    | 0, hu => simp at hu; subst hu; have := hqh.cell 0; simpa [Addr.add] using this) (by intro u hu; simp at hu; subst hu; rfl) (by unfold maxLen; omega) (by omega) hW.low (fun v' w' h1 h2 _ => ?_)
                  have hN : JD4 wf base vq Nq xq K1 K2 K3 K4 B6 7 w' (upd vals 6 v') := ⟨Nat.le_trans hW.low h2.size, hW.keep.trans (.app hro hW.low h2), ⟨hW.fix.1, hW.fix.2.1, hW.fix.2.2.1, hW.fix.2.2.2.1, hW.fix.2.2.2.2⟩, fun h => absurd h (by decide), fun h => absurd h (by decide), fun _ => h1, fun h => absurd h (by decide)⟩
                  exact ⟨_, rfl, hN⟩
                simp only [Act.put, List.setIfInBounds_toArray, List.set_cons_succ, List.set_cons_zero]
                refine ⟨fun W hW => ?_, trivial⟩
                have hN : JD4 wf base vq Nq xq K1 K2 K3 K4 B6 8 W (upd vals 7 (vals 6)) := ⟨hW.low, hW.keep, ⟨hW.fix.1, hW.fix.2.1, hW.fix.2.2.1, hW.fix.2.2.2.1, hW.fix.2.2.2.2⟩, fun h => absurd h (by decide), fun h => absurd h (by decide), fun h => absurd h (by decide), fun _ => hW.app rfl⟩
                unfold Oper.wp
                simp [go_sem]
                first | exact hN | exact ⟨_, rfl, hN⟩
              · intro W vals hJ
                have hfin := hJ.fin rfl
                have HR' : Hid (W.ownsRow base 9 1 (vals 7) (Q ++ [B6]).length ((Q ++ [B6]).map Value.string)) := by
                  show W.ownsRow _ _ _ _ _ _
                  rw [List.length_append, HNQ.out, List.map_append, HXQ.out]; exact hfin
                have HB' := hidden (HBF.out.trans hJ.keep.1)
                have HS' := hidden (hJ.keep.2 _ _ _ (by decide) HSF.out)
                have hQl' : (Q ++ [B6]).length ≤ 7 * k + 1 + (j + 1) := by rw [List.length_append, HNQ.out]; simp; omega
                simp only [putAll, List.map_cons, List.map_nil, Job.val, Act.put, List.setIfInBounds_toArray, List.set_cons_succ, List.set_cons_zero]
                obtain ⟨vv, hvv⟩ : ∃ q, vals 7 = q := ⟨_, rfl⟩
                rw [hvv] at HR' ⊢
                clear hJ hfin hJ0 HFB HRF HBF HSF hvv
                go_wp2_with fail
                go_roundw
                case rel => exact ⟨j + 1, _, by go_num, by omega, HQN, HR', HB', HS', hQl'⟩
                case measure => simp [intOf]; omega
            · have hji : ¬ (j : Int) < (nf : Int) := by omega
              have HSN : Hid (Q = secsTo true l (k + 1)) := by
                show _ = _
                have e : y.s.fixs.take j = y.s.fixs := List.take_of_length_le (by rw [HNF.out]; omega)
                rw [hQ.out, e, hS.out, ALN.out]
                unfold secsTo
                rw [if_pos rfl, if_pos rfl, fm_snoc secLines hy2.out, List.map_append]
                unfold secLines
                rw [List.map_cons, List.map_map]; rfl
              clear hQ hsb
              go_wp2_with fail
              go_roundw
              case rel => exact ⟨k + 1, Q, by go_num, by omega, HSN, hrow, hb, by omega, by omega⟩
              case measure => simp [intOf]; omega
        · have hbi : ¬ (0 : Int) < (nb : Int) := by omega
          have ALN : Hid (A6 = strOfNums (secT y.s)) := by
            show _ = _
            rw [← secT_text hK1 hK2 hK3 (by rw [hnb]; exact hbyt), ← hA6, ← hA5, ← hA4, ← hA3, ← hA2, ← hA1, ← hA0]
          clear hnb hK1 hK2 hK3 hA0 hA1 hA2 hA3 hA4 hA5 hA6
          have HO := hidden (HRW.out.alloc (.cells #[.string A6] 9))
          have hlow : Hid (∀ q, Value.ownBlock u3 = some q → base ≤ q) := fun q hq => (HRW.out.lt q hq).1
          have hbw1 := hidden (HBW.out.alloc (Nat.le_trans HBS.out HBW.out.size) (.cells #[.string A6] 9))
          have HSB1 := hidden (HSB.out.alloc (.cells #[.string A6] 9))
          have hbsz : base ≤ (W.alloc (.cells #[.string A6] 9)).heap.size := Nat.le_trans (Nat.le_trans HBS.out HBW.out.size) (by simp)
          clear HRW HBW HSB
          go_wp2_with (at_builtin; refine wpList_append_own _ rfl _ _ 28 rfl base 9 i0 (.string ⟨#[]⟩) 1 16 Tryz.underlying28 hi0 hz0 hz1 hz2 rfl (by decide) _ _ _ rfl HO.out ⟨W.heap.size, 0, none⟩ 1 1 [.string A6] rfl rfl (fun t u ht => by
              match t, ht with
              | 0, ht => simp at ht; subst ht; simp [Addr.add]) (by intro u hu; simp at hu; subst hu; rfl) (by unfold maxLen; omega) (by omega) hbsz ?_)
          intro v' w9 hown hg _
          have HR9 : Hid (w9.ownsRow base 9 1 v' (S ++ [A6]).length ((S ++ [A6]).map Value.string)) := by
            show w9.ownsRow _ _ _ _ _ _
            rw [List.length_append, HNS.out, List.map_append, HXS.out]; exact hown
          have HB9 := hidden (hbw1.out.trans (KeepStr.app HO.out hbsz hg).1)
          have HS9 := hidden ((KeepStr.app HO.out hbsz hg).2 _ _ _ (by decide) HSB1.out)
          clear hown hg HO hlow hbw1 HSB1 hbsz
          go_wp2_with fail
          go_loopw [3, 7] (fun v i wr => ∃ (j : Nat) (Q : List ByteArray), i = .int .i64 j ∧ j ≤ nf ∧ Hid (Q = S ++ (A6 :: (y.s.fixs.take j).map fun f => strOfNums (fixT f))) ∧ Hid (wr.ownsRow base 9 1 v Q.length (Q.map Value.string)) ∧ Hid (Below base X wr) ∧ Hid (Has wr sb 52 #[.string y.s.name, .int .i64 y.s.kind, .int .i64 y.s.align, .slice y.a1 y.s.bytes.length y.c1, .int .i64 y.s.size, .slice y.a2 y.s.fixs.length y.c2]) ∧ Q.length ≤ 7 * k + 1 + j) (fun _ i _ => nf - (intOf i).toNat)
          case atStart => exact ⟨0, S ++ [A6], rfl, Nat.zero_le _, (by show _ = _; simp), HR9.out, HB9.out, HS9.out, by rw [List.length_append, HNS.out]; simp; omega⟩
          case round =>
            clear HR9 HB9 HS9
            obtain ⟨j, Q, rfl, hj, hQ, hrow, hb, hsb, hQl⟩ := hrel
            have x5 : wr.cell? ⟨sb, 5, none⟩ = some (.slice y.a2 y.s.fixs.length y.c2) := hsb.out.cell 5
            rw [HNF.out] at x5
            by_cases hjlt : j < nf
            · have hji : (j : Int) < (nf : Int) := by omega
              have hjl : j < y.s.fixs.length := by rw [HNF.out]; exact hjlt
              obtain ⟨b2, off2, ha2, _, r0, r1, r2, r3⟩ := ((H1.out wr hb.out).fixs y hym.out).at_ hjl
              rw [ha2] at x5
              obtain ⟨f, hf⟩ : ∃ f, y.s.fixs[j] = f := ⟨_, rfl⟩
              rw [hf] at r0 r1 r2 r3
              have hf2 : y.s.fixs[j]? = some f := by rw [List.getElem?_eq_getElem hjl, hf]
              have hfn := hnear.out f (by rw [← hf]; exact List.getElem_mem hjl)
              have HQN : Hid (Q ++ [strOfNums (fixT f)] = S ++ (A6 :: (y.s.fixs.take (j + 1)).map fun f => strOfNums (fixT f))) := by
                show _ = _
                rw [hQ.out, List.take_add_one, hf2, List.map_append, List.append_assoc]; rfl
              have HTX := hidden (fun (K1 K2 K3 K4 : ByteArray) (h1 : strOfNums (numL f.pl) = K1) (h2 : strOfNums (numL f.kind) = K2) (h3 : strOfNums (numL f.to) = K3) (h4 : strOfNums (numL f.add) = K4) => fixT_text h1 h2 h3 h4)
              clear hf hf2 hjl
              obtain ⟨pl, kd, tg, ad⟩ := f
              obtain ⟨⟨n0, n1⟩, ⟨n2, n3⟩, ⟨n4, n5⟩, n6, n7⟩ := hfn
              simp only at r0 r1 r2 r3 n0 n1 n2 n3 n4 n5 n6 n7 HTX
              obtain ⟨K1, hK1⟩ : ∃ q, strOfNums (numL (pl)) = q := ⟨_, rfl⟩
              have k1 : K1.size ≤ 7 := by rw [← hK1]; exact numT_size (by omega) (by omega)
              have HK1 : Hid (∀ W, Calls Tryz.prog 29 #[.int .i64 (pl)] W fun e w' => e = .returned (.string K1) ∧ Below W.heap.size W w') := fun W => by
                have := l8Number_any W (pl) (by omega) (by omega)
                rwa [hK1] at this
              obtain ⟨K2, hK2⟩ : ∃ q, strOfNums (numL (kd)) = q := ⟨_, rfl⟩
              have k2 : K2.size ≤ 7 := by rw [← hK2]; exact numT_size (by omega) (by omega)
              have HK2 : Hid (∀ W, Calls Tryz.prog 29 #[.int .i64 (kd)] W fun e w' => e = .returned (.string K2) ∧ Below W.heap.size W w') := fun W => by
                have := l8Number_any W (kd) (by omega) (by omega)
                rwa [hK2] at this
              obtain ⟨K3, hK3⟩ : ∃ q, strOfNums (numL (tg)) = q := ⟨_, rfl⟩
              have k3 : K3.size ≤ 7 := by rw [← hK3]; exact numT_size (by omega) (by omega)
              have HK3 : Hid (∀ W, Calls Tryz.prog 29 #[.int .i64 (tg)] W fun e w' => e = .returned (.string K3) ∧ Below W.heap.size W w') := fun W => by
                have := l8Number_any W (tg) (by omega) (by omega)
                rwa [hK3] at this
              obtain ⟨K4, hK4⟩ : ∃ q, strOfNums (numL (ad)) = q := ⟨_, rfl⟩
              have k4 : K4.size ≤ 7 := by rw [← hK4]; exact numT_size (by omega) (by omega)
              have HK4 : Hid (∀ W, Calls Tryz.prog 29 #[.int .i64 (ad)] W fun e w' => e = .returned (.string K4) ∧ Below W.heap.size W w') := fun W => by
                have := l8Number_any W (ad) (by omega) (by omega)
                rwa [hK4] at this
              have hsp : (⟨#[32]⟩ : ByteArray).size = 1 := rfl
              have hps : (⟨#[115, 101, 99, 116, 105, 111, 110, 32]⟩ : ByteArray).size = 8 := rfl
              have hpf : (⟨#[102, 105, 120, 117, 112, 32]⟩ : ByteArray).size = 6 := rfl
              have hpy : (⟨#[115, 121, 109, 98, 111, 108, 32]⟩ : ByteArray).size = 7 := rfl
              have zB0 : ¬ 9223372036854775807 < 6 + K1.size := by omega
              obtain ⟨B0, hB0⟩ : ∃ q : ByteArray, (⟨#[102, 105, 120, 117, 112, 32]⟩ : ByteArray) ++ K1 = q := ⟨_, rfl⟩
              have sB0 : B0.size ≤ 13 := by rw [← hB0, ByteArray.size_append]; omega
              have zB1 : ¬ 9223372036854775807 < B0.size + 1 := by omega
              obtain ⟨B1, hB1⟩ : ∃ q : ByteArray, B0 ++ (⟨#[32]⟩ : ByteArray) = q := ⟨_, rfl⟩
              have sB1 : B1.size ≤ 14 := by rw [← hB1, ByteArray.size_append]; omega
              have zB2 : ¬ 9223372036854775807 < B1.size + K2.size := by omega
              obtain ⟨B2, hB2⟩ : ∃ q : ByteArray, B1 ++ K2 = q := ⟨_, rfl⟩
              have sB2 : B2.size ≤ 21 := by rw [← hB2, ByteArray.size_append]; omega
              have zB3 : ¬ 9223372036854775807 < B2.size + 1 := by omega
              obtain ⟨B3, hB3⟩ : ∃ q : ByteArray, B2 ++ (⟨#[32]⟩ : ByteArray) = q := ⟨_, rfl⟩
              have sB3 : B3.size ≤ 22 := by rw [← hB3, ByteArray.size_append]; omega
              have zB4 : ¬ 9223372036854775807 < B3.size + K3.size := by omega
              obtain ⟨B4, hB4⟩ : ∃ q : ByteArray, B3 ++ K3 = q := ⟨_, rfl⟩
              have sB4 : B4.size ≤ 29 := by rw [← hB4, ByteArray.size_append]; omega
              have zB5 : ¬ 9223372036854775807 < B4.size + 1 := by omega
              obtain ⟨B5, hB5⟩ : ∃ q : ByteArray, B4 ++ (⟨#[32]⟩ : ByteArray) = q := ⟨_, rfl⟩
              have sB5 : B5.size ≤ 30 := by rw [← hB5, ByteArray.size_append]; omega
              have zB6 : ¬ 9223372036854775807 < B5.size + K4.size := by omega
              obtain ⟨B6, hB6⟩ : ∃ q : ByteArray, B5 ++ K4 = q := ⟨_, rfl⟩
              have sB6 : B6.size ≤ 37 := by rw [← hB6, ByteArray.size_append]; omega
              have HLN : Hid (B6 = strOfNums (fixT ⟨pl, kd, tg, ad⟩)) := by
                show _ = _
                rw [← HTX.out K1 K2 K3 K4 hK1 hK2 hK3 hK4, ← hB6, ← hB5, ← hB4, ← hB3, ← hB2, ← hB1, ← hB0]
              rw [← HLN.out] at HQN
              obtain ⟨wf, hwf⟩ : ∃ q, wr.alloc (.cells #[.int .i64 pl, .int .i64 kd, .int .i64 tg, .int .i64 ad] 55) = q := ⟨_, rfl⟩
              obtain ⟨fb, hfb⟩ : ∃ q, wr.heap.size = q := ⟨_, rfl⟩
              have HFB : Hid (Has wf fb 55 #[.int .i64 pl, .int .i64 kd, .int .i64 tg, .int .i64 ad]) := by show Has _ _ _ _; rw [← hwf, ← hfb]; exact Has.new _ _ _
              have hbw : Below wr.heap.size wr wf := by rw [← hwf]; exact (Below.refl _ _).alloc (Nat.le_refl _) _
              have HRF := hidden (own_only hrow.out hbw)
              have hlof : base ≤ wf.heap.size := Nat.le_trans HBS.out (Nat.le_trans hb.out.size hbw.size)
              have HBF := hidden (hb.out.trans (hbw.mono (Nat.le_trans HBS.out hb.out.size)))
              have HSF := hidden (hsb.out.below hbw hsb.out.lt)
              obtain ⟨Nq, hNq⟩ : ∃ q, Q.length = q := ⟨_, rfl⟩
              obtain ⟨xq, hxq⟩ : ∃ q, Q.map Value.string = q := ⟨_, rfl⟩
              rw [hNq] at HRF hQl
              rw [hxq] at HRF
              have HNQ := hidden hNq
              have HXQ := hidden hxq
              go_upto_region 14 with fail
              obtain ⟨vq, hvq⟩ : ∃ q, u3 = q := ⟨_, rfl⟩
              rw [hvq] at HRF ⊢
              try rw [hwf]
              try rw [hfb]
              have hJ0 : Hid (JD4 wf base vq Nq xq K1 K2 K3 K4 B6 0 wf.drew fun i => if i = 0 then .string K1 else if i = 1 then .string K2 else if i = 2 then .string K3 else if i = 3 then .string K4 else .string B6) := ⟨hlof, .below hlof ⟨rfl, rfl, rfl, Nat.le_refl _, fun _ _ => rfl⟩, ⟨rfl, rfl, rfl, rfl, rfl⟩, fun _ => own_only HRF.out ⟨rfl, rfl, rfl, Nat.le_refl _, fun _ _ => rfl⟩, fun h => absurd h (by decide), fun h => absurd h (by decide), fun h => absurd h (by decide)⟩
              clear hwf hfb hvq hNq hxq hbw hQ r0 r1 r2 r3 x5 hrow hb hsb HTX HLN hK1 hK2 hK3 hK4
              refine wp_region_chain (m := 8) (js := [.quiet vq 8, .quiet (.pointer (some ⟨fb, 0, none⟩)) 8, .quiet (.int .i64 pl) 8, .chain 0, .quiet (.string B0) 8, .quiet (.string B1) 8, .quiet (.pointer (some ⟨fb, 1, none⟩)) 8, .quiet (.int .i64 kd) 8, .chain 1, .quiet (.string B2) 8, .quiet (.string B3) 8, .quiet (.pointer (some ⟨fb, 2, none⟩)) 8, .quiet (.int .i64 tg) 8, .chain 2, .quiet (.string B4) 8, .quiet (.string B5) 8, .quiet (.pointer (some ⟨fb, 3, none⟩)) 8, .quiet (.int .i64 ad) 8, .chain 3, .chain 4, .chain 5, .chain 6, .chain 7]) (by kernel_rfl) (JD4 wf base vq Nq xq K1 K2 K3 K4 B6) (by kernel_rfl) (by kernel_rfl) ⟨_, hJ0.out⟩ (fun vals => ?_) ?_
              · show SeqW _ _ _ _ _ _ _
                iterate 2
                  refine ⟨fun kk hkk W hW => ?_, ?_⟩
                  · unfold Oper.wp
                    simp [go_sem]
                    try exact ⟨_, rfl, rfl⟩
                  simp only [Act.put, List.setIfInBounds_toArray, List.set_cons_succ, List.set_cons_zero]
                refine ⟨fun kk hkk W hW => ?_, ?_⟩
                · have q1 := ((hW.keep.2 _ _ _ (by decide) HFB.out).cell 0 : W.cell? ⟨fb, 0, none⟩ = some (.int .i64 pl))
                  unfold Oper.wp
                  simp [go_sem, q1]
                  try exact ⟨_, rfl, rfl⟩
                simp only [Act.put, List.setIfInBounds_toArray, List.set_cons_succ, List.set_cons_zero]
                refine ⟨fun W hW => ?_, ?_⟩
                · unfold Oper.wp
                  simp [go_sem]
                  refine (HK1.out W).mono ?_
                  rintro e w' ⟨rfl, hb⟩
                  have hN : JD4 wf base vq Nq xq K1 K2 K3 K4 B6 1 w' (upd vals 0 (.string K1)) := ⟨Nat.le_trans hW.low hb.size, hW.keep.trans (.below hW.low hb), ⟨rfl, hW.fix.2.1, hW.fix.2.2.1, hW.fix.2.2.2.1, hW.fix.2.2.2.2⟩, fun _ => own_only (hW.row (by decide)) hb, fun h => absurd h (by decide), fun h => absurd h (by decide), fun h => absurd h (by decide)⟩
                  first | exact hN | exact ⟨_, rfl, hN⟩
                simp only [Act.put, List.setIfInBounds_toArray, List.set_cons_succ, List.set_cons_zero]
                refine ⟨fun kk hkk W hW => ?_, ?_⟩
                · have q1 := hW.fix.1
                  unfold Oper.wp
                  simp [go_sem, q1, zB0, hB0]
                  try exact ⟨_, rfl, rfl⟩
                simp only [Act.put, List.setIfInBounds_toArray, List.set_cons_succ, List.set_cons_zero]
                refine ⟨fun kk hkk W hW => ?_, ?_⟩
                · unfold Oper.wp
                  simp [go_sem, zB1, hB1]
                  try exact ⟨_, rfl, rfl⟩
                simp only [Act.put, List.setIfInBounds_toArray, List.set_cons_succ, List.set_cons_zero]
                refine ⟨fun kk hkk W hW => ?_, ?_⟩
                · unfold Oper.wp
                  simp [go_sem]
                  try exact ⟨_, rfl, rfl⟩
                simp only [Act.put, List.setIfInBounds_toArray, List.set_cons_succ, List.set_cons_zero]
                refine ⟨fun kk hkk W hW => ?_, ?_⟩
                · have q1 := ((hW.keep.2 _ _ _ (by decide) HFB.out).cell 1 : W.cell? ⟨fb, 1, none⟩ = some (.int .i64 kd))
                  unfold Oper.wp
                  simp [go_sem, q1]
                  try exact ⟨_, rfl, rfl⟩
                simp only [Act.put, List.setIfInBounds_toArray, List.set_cons_succ, List.set_cons_zero]
                refine ⟨fun W hW => ?_, ?_⟩
                · unfold Oper.wp
                  simp [go_sem]
                  refine (HK2.out W).mono ?_
                  rintro e w' ⟨rfl, hb⟩
                  have hN : JD4 wf base vq Nq xq K1 K2 K3 K4 B6 2 w' (upd vals 1 (.string K2)) := ⟨Nat.le_trans hW.low hb.size, hW.keep.trans (.below hW.low hb), ⟨hW.fix.1, rfl, hW.fix.2.2.1, hW.fix.2.2.2.1, hW.fix.2.2.2.2⟩, fun _ => own_only (hW.row (by decide)) hb, fun h => absurd h (by decide), fun h => absurd h (by decide), fun h => absurd h (by decide)⟩
                  first | exact hN | exact ⟨_, rfl, hN⟩
                simp only [Act.put, List.setIfInBounds_toArray, List.set_cons_succ, List.set_cons_zero]
                refine ⟨fun kk hkk W hW => ?_, ?_⟩
                · have q1 := hW.fix.2.1
                  unfold Oper.wp
                  simp [go_sem, q1, zB2, hB2]
                  try exact ⟨_, rfl, rfl⟩
                simp only [Act.put, List.setIfInBounds_toArray, List.set_cons_succ, List.set_cons_zero]
                refine ⟨fun kk hkk W hW => ?_, ?_⟩
                · unfold Oper.wp
                  simp [go_sem, zB3, hB3]
                  try exact ⟨_, rfl, rfl⟩
                simp only [Act.put, List.setIfInBounds_toArray, List.set_cons_succ, List.set_cons_zero]
                refine ⟨fun kk hkk W hW => ?_, ?_⟩
                · unfold Oper.wp
                  simp [go_sem]
                  try exact ⟨_, rfl, rfl⟩
                simp only [Act.put, List.setIfInBounds_toArray, List.set_cons_succ, List.set_cons_zero]
                refine ⟨fun kk hkk W hW => ?_, ?_⟩
                · have q1 := ((hW.keep.2 _ _ _ (by decide) HFB.out).cell 2 : W.cell? ⟨fb, 2, none⟩ = some (.int .i64 tg))
                  unfold Oper.wp
                  simp [go_sem, q1]
                  try exact ⟨_, rfl, rfl⟩
                simp only [Act.put, List.setIfInBounds_toArray, List.set_cons_succ, List.set_cons_zero]
                refine ⟨fun W hW => ?_, ?_⟩
                · unfold Oper.wp
                  simp [go_sem]
                  refine (HK3.out W).mono ?_
                  rintro e w' ⟨rfl, hb⟩
                  have hN : JD4 wf base vq Nq xq K1 K2 K3 K4 B6 3 w' (upd vals 2 (.string K3)) := ⟨Nat.le_trans hW.low hb.size, hW.keep.trans (.below hW.low hb), ⟨hW.fix.1, hW.fix.2.1, rfl, hW.fix.2.2.2.1, hW.fix.2.2.2.2⟩, fun _ => own_only (hW.row (by decide)) hb, fun h => absurd h (by decide), fun h => absurd h (by decide), fun h => absurd h (by decide)⟩
                  first | exact hN | exact ⟨_, rfl, hN⟩
                simp only [Act.put, List.setIfInBounds_toArray, List.set_cons_succ, List.set_cons_zero]
                refine ⟨fun kk hkk W hW => ?_, ?_⟩
                · have q1 := hW.fix.2.2.1
                  unfold Oper.wp
                  simp [go_sem, q1, zB4, hB4]
                  try exact ⟨_, rfl, rfl⟩
                simp only [Act.put, List.setIfInBounds_toArray, List.set_cons_succ, List.set_cons_zero]
                refine ⟨fun kk hkk W hW => ?_, ?_⟩
                · unfold Oper.wp
                  simp [go_sem, zB5, hB5]
                  try exact ⟨_, rfl, rfl⟩
                simp only [Act.put, List.setIfInBounds_toArray, List.set_cons_succ, List.set_cons_zero]
                refine ⟨fun kk hkk W hW => ?_, ?_⟩
                · unfold Oper.wp
                  simp [go_sem]
                  try exact ⟨_, rfl, rfl⟩
                simp only [Act.put, List.setIfInBounds_toArray, List.set_cons_succ, List.set_cons_zero]
                refine ⟨fun kk hkk W hW => ?_, ?_⟩
                · have q1 := ((hW.keep.2 _ _ _ (by decide) HFB.out).cell 3 : W.cell? ⟨fb, 3, none⟩ = some (.int .i64 ad))
                  unfold Oper.wp
                  simp [go_sem, q1]
                  try exact ⟨_, rfl, rfl⟩
                simp only [Act.put, List.setIfInBounds_toArray, List.set_cons_succ, List.set_cons_zero]
                refine ⟨fun W hW => ?_, ?_⟩
                · unfold Oper.wp
                  simp [go_sem]
                  refine (HK4.out W).mono ?_
                  rintro e w' ⟨rfl, hb⟩
                  have hN : JD4 wf base vq Nq xq K1 K2 K3 K4 B6 4 w' (upd vals 3 (.string K4)) := ⟨Nat.le_trans hW.low hb.size, hW.keep.trans (.below hW.low hb), ⟨hW.fix.1, hW.fix.2.1, hW.fix.2.2.1, rfl, hW.fix.2.2.2.2⟩, fun _ => own_only (hW.row (by decide)) hb, fun h => absurd h (by decide), fun h => absurd h (by decide), fun h => absurd h (by decide)⟩
                  first | exact hN | exact ⟨_, rfl, hN⟩
                simp only [Act.put, List.setIfInBounds_toArray, List.set_cons_succ, List.set_cons_zero]
                refine ⟨fun W hW => ?_, ?_⟩
                · have q1 := hW.fix.2.2.2.1
                  have hN : JD4 wf base vq Nq xq K1 K2 K3 K4 B6 5 W (upd vals 4 (.string B6)) := ⟨hW.low, hW.keep, ⟨hW.fix.1, hW.fix.2.1, hW.fix.2.2.1, hW.fix.2.2.2.1, rfl⟩, fun _ => hW.row (by decide), fun h => absurd h (by decide), fun h => absurd h (by decide), fun h => absurd h (by decide)⟩
                  unfold Oper.wp
                  simp [go_sem, q1, zB6, hB6]
                  first | exact hN | exact ⟨_, rfl, hN⟩
                simp only [Act.put, List.setIfInBounds_toArray, List.set_cons_succ, List.set_cons_zero]
                refine ⟨fun W hW => ?_, ?_⟩
                · have q1 := hW.fix.2.2.2.2
                  have hN : JD4 wf base vq Nq xq K1 K2 K3 K4 B6 6 (W.alloc (.cells #[.string B6] 9)) (upd vals 5 (.slice (some ⟨W.heap.size, 0, none⟩) 1 1)) := ⟨Nat.le_trans hW.low (by simp), hW.keep.trans (.below hW.low ((Below.refl _ _).alloc (Nat.le_refl _) _)), ⟨hW.fix.1, hW.fix.2.1, hW.fix.2.2.1, hW.fix.2.2.2.1, hW.fix.2.2.2.2⟩, fun _ => (hW.row (by decide)).alloc _, fun _ => ⟨W.heap.size, rfl, Has.new _ _ _⟩, fun h => absurd h (by decide), fun h => absurd h (by decide)⟩
                  unfold Oper.wp
                  simp [go_sem, q1]
                  first | exact hN | exact ⟨_, rfl, hN⟩
                simp only [Act.put, List.setIfInBounds_toArray, List.set_cons_succ, List.set_cons_zero]
                refine ⟨fun W hW => ?_, ?_⟩
                · obtain ⟨qb, hq, hqh⟩ := hW.arr rfl
                  have hro := hW.row (by decide)
                  refine wp_append_own W _ _ 28 rfl base 9 i0 (.string ⟨#[]⟩) 1 16 Tryz.underlying28 hi0 hz0 hz1 hz2 rfl (by decide) _ _ _ rfl hro ⟨qb, 0, none⟩ 1 1 [.string B6] hq rfl (fun j u hu => by
                    match j, hu with
                    | 0, hu => simp at hu; subst hu; have := hqh.cell 0; simpa [Addr.add] using this) (by intro u hu; simp at hu; subst hu; rfl) (by unfold maxLen; omega) (by omega) hW.low (fun v' w' h1 h2 _ => ?_)
                  have hN : JD4 wf base vq Nq xq K1 K2 K3 K4 B6 7 w' (upd vals 6 v') := ⟨Nat.le_trans hW.low h2.size, hW.keep.trans (.app hro hW.low h2), ⟨hW.fix.1, hW.fix.2.1, hW.fix.2.2.1, hW.fix.2.2.2.1, hW.fix.2.2.2.2⟩, fun h => absurd h (by decide), fun h => absurd h (by decide), fun _ => h1, fun h => absurd h (by decide)⟩
                  exact ⟨_, rfl, hN⟩
                simp only [Act.put, List.setIfInBounds_toArray, List.set_cons_succ, List.set_cons_zero]
                refine ⟨fun W hW => ?_, trivial⟩
                have hN : JD4 wf base vq Nq xq K1 K2 K3 K4 B6 8 W (upd vals 7 (vals 6)) := ⟨hW.low, hW.keep, ⟨hW.fix.1, hW.fix.2.1, hW.fix.2.2.1, hW.fix.2.2.2.1, hW.fix.2.2.2.2⟩, fun h => absurd h (by decide), fun h => absurd h (by decide), fun h => absurd h (by decide), fun _ => hW.app rfl⟩
                unfold Oper.wp
                simp [go_sem]
                first | exact hN | exact ⟨_, rfl, hN⟩
              · intro W vals hJ
                have hfin := hJ.fin rfl
                have HR' : Hid (W.ownsRow base 9 1 (vals 7) (Q ++ [B6]).length ((Q ++ [B6]).map Value.string)) := by
                  show W.ownsRow _ _ _ _ _ _
                  rw [List.length_append, HNQ.out, List.map_append, HXQ.out]; exact hfin
                have HB' := hidden (HBF.out.trans hJ.keep.1)
                have HS' := hidden (hJ.keep.2 _ _ _ (by decide) HSF.out)
                have hQl' : (Q ++ [B6]).length ≤ 7 * k + 1 + (j + 1) := by rw [List.length_append, HNQ.out]; simp; omega
                simp only [putAll, List.map_cons, List.map_nil, Job.val, Act.put, List.setIfInBounds_toArray, List.set_cons_succ, List.set_cons_zero]
                obtain ⟨vv, hvv⟩ : ∃ q, vals 7 = q := ⟨_, rfl⟩
                rw [hvv] at HR' ⊢
                clear hJ hfin hJ0 HFB HRF HBF HSF hvv
                go_wp2_with fail
                go_roundw
                case rel => exact ⟨j + 1, _, by go_num, by omega, HQN, HR', HB', HS', hQl'⟩
                case measure => simp [intOf]; omega
            · have hji : ¬ (j : Int) < (nf : Int) := by omega
              have HSN : Hid (Q = secsTo true l (k + 1)) := by
                show _ = _
                have e : y.s.fixs.take j = y.s.fixs := List.take_of_length_le (by rw [HNF.out]; omega)
                rw [hQ.out, e, hS.out, ALN.out]
                unfold secsTo
                rw [if_pos rfl, if_pos rfl, fm_snoc secLines hy2.out, List.map_append]
                unfold secLines
                rw [List.map_cons, List.map_map]; rfl
              clear hQ hsb
              go_wp2_with fail
              go_roundw
              case rel => exact ⟨k + 1, Q, by go_num, by omega, HSN, hrow, hb, by omega, by omega⟩
              case measure => simp [intOf]; omega
    · have hi : ¬ (k : Int) < (n : Int) := by omega
      have hS2 : Hid (S = symsTo ok l ms 0) := by
        show _ = _
        have e : l.take k = l := List.take_of_length_le (by rw [← HN.out]; omega)
        rw [hS.out]
        unfold secsTo symsTo
        rw [e]
        simp
      have hrow2 := hrow
      have hb2 := hb
      have hSl2 : S.length ≤ 100 + 0 := by omega
      clear hS hlt hk hSl hSm hrow hb
      go_wp2_with fail
      clear hi x0 x1
      go_loopw [3, 9] (fun v i wr => ∃ (k : Nat) (S : List ByteArray), i = .int .i64 k ∧ k ≤ m ∧ Hid (S = symsTo ok l ms k) ∧ Hid (wr.ownsRow base 9 1 v S.length (S.map Value.string)) ∧ Hid (Below base X wr) ∧ S.length ≤ 100 + k) (fun _ i _ => m - (intOf i).toNat)
      case atStart => exact ⟨0, _, rfl, Nat.zero_le _, hS2, hrow2, hb2, hSl2⟩
      case round =>
        clear hS2 hrow2 hb2 hSl2
        obtain ⟨k, S, rfl, hk, hS, hrow, hb, hSl⟩ := hrel
        have x0 := (HC.out wr hb.out).1
        have x1 := (HC.out wr hb.out).2
        by_cases hlt : k < m
        · have hi : (k : Int) < (m : Int) := by omega
          have HV := hidden (HOB.out wr hb.out)
          go_wp2_with fail
          refine HV.out.mono ?_
          clear HV x0 x1
          rintro e w5 ⟨rfl, hb5⟩
          have HB5 := hidden (hb.out.trans (hb5.mono (Nat.le_trans HBS.out hb.out.size)))
          have HR5 := hidden (own_only hrow.out hb5)
          clear hb5 hrow hb
          rcases ok with _ | _
          · have HF : Hid (S = dumpT l ms) := by show _ = _; rw [hS.out]; unfold symsTo dumpT; rw [HOK.out]; rfl
            rw [HF.out] at HR5
            clear hS
            go_wp2_with fail
            go_ret
            exact ⟨_, rfl, own_low HR5.out HBL.out, HXB.out.trans (HB5.out.mono HBL.out)⟩
          · have x1 := (HC.out w5 HB5.out).2
            have hkl : k < ms.length := by rw [← HM.out]; exact hlt
            obtain ⟨b, off, rfl, hbB, p0, p1, p2, p3⟩ := (H2.out w5 HB5.out).at_ hkl
            obtain ⟨y, hy⟩ : ∃ y, ms[k] = y := ⟨_, rfl⟩
            rw [hy] at p0 p1 p2 p3
            have hy2 : ms[k]? = some y := by rw [List.getElem?_eq_getElem hkl, hy]
            have hym : y ∈ ms := by rw [← hy]; exact List.getElem_mem hkl
            have ht := HTOLD.out rfl
            have hm12 : m ≤ 12 := by rw [HM.out]; exact ht.syms
            obtain ⟨⟨b0, b1⟩, g0, g1⟩ := sym_bytes ht hym
            obtain ⟨v0, v1⟩ := sym_value ht hym
            have hno := ht.sym y hym
            unfold symOk at hno
            simp only [Bool.and_eq_true] at hno
            have hns := ((nameOk_iff _).1 hno.1.1).1.2
            rw [Array.length_toList] at hns
            change y.name.size ≤ 8 at hns
            have HTX := hidden (fun (K1 K2 K3 : ByteArray) (h1 : strOfNums (numL y.bind) = K1) (h2 : strOfNums (numL y.loc) = K2) (h3 : strOfNums (numL y.value) = K3) => symT_text h1 h2 h3)
            have HSN : Hid (S ++ [strOfNums (symT y)] = symsTo true l ms (k + 1)) := by
              show _ = _
              rw [hS.out]
              unfold symsTo
              rw [if_pos rfl, if_pos rfl, List.take_add_one, hy2, List.map_append, List.append_assoc]; rfl
            obtain ⟨nm, bd, lo, va⟩ := y
            simp only at p0 p1 p2 p3 b0 b1 g0 g1 v0 v1 hns HTX
            obtain ⟨K1, hK1⟩ : ∃ q, strOfNums (numL (bd)) = q := ⟨_, rfl⟩
            have k1 : K1.size ≤ 7 := by rw [← hK1]; exact numT_size (by omega) (by omega)
            have HK1 : Hid (∀ W, Calls Tryz.prog 29 #[.int .i64 (bd)] W fun e w' => e = .returned (.string K1) ∧ Below W.heap.size W w') := fun W => by
              have := l8Number_any W (bd) (by omega) (by omega)
              rwa [hK1] at this
            obtain ⟨K2, hK2⟩ : ∃ q, strOfNums (numL (lo)) = q := ⟨_, rfl⟩
            have k2 : K2.size ≤ 7 := by rw [← hK2]; exact numT_size (by omega) (by omega)
            have HK2 : Hid (∀ W, Calls Tryz.prog 29 #[.int .i64 (lo)] W fun e w' => e = .returned (.string K2) ∧ Below W.heap.size W w') := fun W => by
              have := l8Number_any W (lo) (by omega) (by omega)
              rwa [hK2] at this
            obtain ⟨K3, hK3⟩ : ∃ q, strOfNums (numL (va)) = q := ⟨_, rfl⟩
            have k3 : K3.size ≤ 7 := by rw [← hK3]; exact numT_size (by omega) (by omega)
            have HK3 : Hid (∀ W, Calls Tryz.prog 29 #[.int .i64 (va)] W fun e w' => e = .returned (.string K3) ∧ Below W.heap.size W w') := fun W => by
              have := l8Number_any W (va) (by omega) (by omega)
              rwa [hK3] at this
            have hsp : (⟨#[32]⟩ : ByteArray).size = 1 := rfl
            have hps : (⟨#[115, 101, 99, 116, 105, 111, 110, 32]⟩ : ByteArray).size = 8 := rfl
            have hpf : (⟨#[102, 105, 120, 117, 112, 32]⟩ : ByteArray).size = 6 := rfl
            have hpy : (⟨#[115, 121, 109, 98, 111, 108, 32]⟩ : ByteArray).size = 7 := rfl
            have zB0 : ¬ 9223372036854775807 < 7 + nm.size := by omega
            obtain ⟨B0, hB0⟩ : ∃ q : ByteArray, (⟨#[115, 121, 109, 98, 111, 108, 32]⟩ : ByteArray) ++ nm = q := ⟨_, rfl⟩
            have sB0 : B0.size ≤ 15 := by rw [← hB0, ByteArray.size_append]; omega
            have zB1 : ¬ 9223372036854775807 < B0.size + 1 := by omega
            obtain ⟨B1, hB1⟩ : ∃ q : ByteArray, B0 ++ (⟨#[32]⟩ : ByteArray) = q := ⟨_, rfl⟩
            have sB1 : B1.size ≤ 16 := by rw [← hB1, ByteArray.size_append]; omega
            have zB2 : ¬ 9223372036854775807 < B1.size + K1.size := by omega
            obtain ⟨B2, hB2⟩ : ∃ q : ByteArray, B1 ++ K1 = q := ⟨_, rfl⟩
            have sB2 : B2.size ≤ 23 := by rw [← hB2, ByteArray.size_append]; omega
            have zB3 : ¬ 9223372036854775807 < B2.size + 1 := by omega
            obtain ⟨B3, hB3⟩ : ∃ q : ByteArray, B2 ++ (⟨#[32]⟩ : ByteArray) = q := ⟨_, rfl⟩
            have sB3 : B3.size ≤ 24 := by rw [← hB3, ByteArray.size_append]; omega
            have zB4 : ¬ 9223372036854775807 < B3.size + K2.size := by omega
            obtain ⟨B4, hB4⟩ : ∃ q : ByteArray, B3 ++ K2 = q := ⟨_, rfl⟩
            have sB4 : B4.size ≤ 31 := by rw [← hB4, ByteArray.size_append]; omega
            have zB5 : ¬ 9223372036854775807 < B4.size + 1 := by omega
            obtain ⟨B5, hB5⟩ : ∃ q : ByteArray, B4 ++ (⟨#[32]⟩ : ByteArray) = q := ⟨_, rfl⟩
            have sB5 : B5.size ≤ 32 := by rw [← hB5, ByteArray.size_append]; omega
            have zB6 : ¬ 9223372036854775807 < B5.size + K3.size := by omega
            obtain ⟨B6, hB6⟩ : ∃ q : ByteArray, B5 ++ K3 = q := ⟨_, rfl⟩
            have sB6 : B6.size ≤ 39 := by rw [← hB6, ByteArray.size_append]; omega
            have HLN : Hid (B6 = strOfNums (symT ⟨nm, bd, lo, va⟩)) := by
              show _ = _
              rw [← HTX.out K1 K2 K3 hK1 hK2 hK3, ← hB6, ← hB5, ← hB4, ← hB3, ← hB2, ← hB1, ← hB0]
            rw [← HLN.out] at HSN
            obtain ⟨wf, hwf⟩ : ∃ q, w5.alloc (.cells #[.string nm, .int .i64 bd, .int .i64 lo, .int .i64 va] 58) = q := ⟨_, rfl⟩
            obtain ⟨fb, hfb⟩ : ∃ q, w5.heap.size = q := ⟨_, rfl⟩
            have HFB : Hid (Has wf fb 58 #[.string nm, .int .i64 bd, .int .i64 lo, .int .i64 va]) := by show Has _ _ _ _; rw [← hwf, ← hfb]; exact Has.new _ _ _
            have hbw : Below w5.heap.size w5 wf := by rw [← hwf]; exact (Below.refl _ _).alloc (Nat.le_refl _) _
            have HRF := hidden (own_only HR5.out hbw)
            have hlof : base ≤ wf.heap.size := Nat.le_trans HBS.out (Nat.le_trans HB5.out.size hbw.size)
            have HBF := hidden (HB5.out.trans (hbw.mono (Nat.le_trans HBS.out HB5.out.size)))
            obtain ⟨Nq, hNq⟩ : ∃ q, S.length = q := ⟨_, rfl⟩
            obtain ⟨xq, hxq⟩ : ∃ q, S.map Value.string = q := ⟨_, rfl⟩
            rw [hNq] at HRF hSl
            rw [hxq] at HRF
            have HNQ := hidden hNq
            have HXQ := hidden hxq
            go_upto_region 19 with fail
            obtain ⟨vq, hvq⟩ : ∃ q, u3 = q := ⟨_, rfl⟩
            rw [hvq] at HRF ⊢
            try rw [hwf]
            try rw [hfb]
            have hJ0 : Hid (JD3 wf base vq Nq xq K1 K2 K3 B6 0 wf.drew fun i => if i = 0 then .string K1 else if i = 1 then .string K2 else if i = 2 then .string K3 else .string B6) := ⟨hlof, .below hlof ⟨rfl, rfl, rfl, Nat.le_refl _, fun _ _ => rfl⟩, ⟨rfl, rfl, rfl, rfl⟩, fun _ => own_only HRF.out ⟨rfl, rfl, rfl, Nat.le_refl _, fun _ _ => rfl⟩, fun h => absurd h (by decide), fun h => absurd h (by decide), fun h => absurd h (by decide)⟩
            clear hwf hfb hvq hNq hxq hbw hS p0 p1 p2 p3 x1 HR5 hy hy2 hym ht hno HTX HLN hK1 hK2 hK3
            refine wp_region_chain (m := 7) (js := [.quiet vq 7, .quiet (.pointer (some ⟨fb, 0, none⟩)) 7, .quiet (.string nm) 7, .quiet (.string B0) 7, .quiet (.string B1) 7, .quiet (.pointer (some ⟨fb, 1, none⟩)) 7, .quiet (.int .i64 bd) 7, .chain 0, .quiet (.string B2) 7, .quiet (.string B3) 7, .quiet (.pointer (some ⟨fb, 2, none⟩)) 7, .quiet (.int .i64 lo) 7, .chain 1, .quiet (.string B4) 7, .quiet (.string B5) 7, .quiet (.pointer (some ⟨fb, 3, none⟩)) 7, .quiet (.int .i64 va) 7, .chain 2, .chain 3, .chain 4, .chain 5, .chain 6]) (by kernel_rfl) (JD3 wf base vq Nq xq K1 K2 K3 B6) (by kernel_rfl) (by kernel_rfl) ⟨_, hJ0.out⟩ (fun vals => ?_) ?_
            · show SeqW _ _ _ _ _ _ _
              iterate 2
                refine ⟨fun kk hkk W hW => ?_, ?_⟩
                · unfold Oper.wp
                  simp [go_sem]
                  try exact ⟨_, rfl, rfl⟩
                simp only [Act.put, List.setIfInBounds_toArray, List.set_cons_succ, List.set_cons_zero]
              refine ⟨fun kk hkk W hW => ?_, ?_⟩
              · have q1 := ((hW.keep.2 _ _ _ (by decide) HFB.out).cell 0 : W.cell? ⟨fb, 0, none⟩ = some (.string nm))
                unfold Oper.wp
                simp [go_sem, q1]
                try exact ⟨_, rfl, rfl⟩
              simp only [Act.put, List.setIfInBounds_toArray, List.set_cons_succ, List.set_cons_zero]
              refine ⟨fun kk hkk W hW => ?_, ?_⟩
              · unfold Oper.wp
                simp [go_sem, zB0, hB0]
                try exact ⟨_, rfl, rfl⟩
              simp only [Act.put, List.setIfInBounds_toArray, List.set_cons_succ, List.set_cons_zero]
              refine ⟨fun kk hkk W hW => ?_, ?_⟩
              · unfold Oper.wp
                simp [go_sem, zB1, hB1]
                try exact ⟨_, rfl, rfl⟩
              simp only [Act.put, List.setIfInBounds_toArray, List.set_cons_succ, List.set_cons_zero]
              refine ⟨fun kk hkk W hW => ?_, ?_⟩
              · unfold Oper.wp
                simp [go_sem]
                try exact ⟨_, rfl, rfl⟩
              simp only [Act.put, List.setIfInBounds_toArray, List.set_cons_succ, List.set_cons_zero]
              refine ⟨fun kk hkk W hW => ?_, ?_⟩
              · have q1 := ((hW.keep.2 _ _ _ (by decide) HFB.out).cell 1 : W.cell? ⟨fb, 1, none⟩ = some (.int .i64 bd))
                unfold Oper.wp
                simp [go_sem, q1]
                try exact ⟨_, rfl, rfl⟩
              simp only [Act.put, List.setIfInBounds_toArray, List.set_cons_succ, List.set_cons_zero]
              refine ⟨fun W hW => ?_, ?_⟩
              · unfold Oper.wp
                simp [go_sem]
                refine (HK1.out W).mono ?_
                rintro e w' ⟨rfl, hb⟩
                have hN : JD3 wf base vq Nq xq K1 K2 K3 B6 1 w' (upd vals 0 (.string K1)) := ⟨Nat.le_trans hW.low hb.size, hW.keep.trans (.below hW.low hb), ⟨rfl, hW.fix.2.1, hW.fix.2.2.1, hW.fix.2.2.2⟩, fun _ => own_only (hW.row (by decide)) hb, fun h => absurd h (by decide), fun h => absurd h (by decide), fun h => absurd h (by decide)⟩
                first | exact hN | exact ⟨_, rfl, hN⟩
              simp only [Act.put, List.setIfInBounds_toArray, List.set_cons_succ, List.set_cons_zero]
              refine ⟨fun kk hkk W hW => ?_, ?_⟩
              · have q1 := hW.fix.1
                unfold Oper.wp
                simp [go_sem, q1, zB2, hB2]
                try exact ⟨_, rfl, rfl⟩
              simp only [Act.put, List.setIfInBounds_toArray, List.set_cons_succ, List.set_cons_zero]
              refine ⟨fun kk hkk W hW => ?_, ?_⟩
              · unfold Oper.wp
                simp [go_sem, zB3, hB3]
                try exact ⟨_, rfl, rfl⟩
              simp only [Act.put, List.setIfInBounds_toArray, List.set_cons_succ, List.set_cons_zero]
              refine ⟨fun kk hkk W hW => ?_, ?_⟩
              · unfold Oper.wp
                simp [go_sem]
                try exact ⟨_, rfl, rfl⟩
              simp only [Act.put, List.setIfInBounds_toArray, List.set_cons_succ, List.set_cons_zero]
              refine ⟨fun kk hkk W hW => ?_, ?_⟩
              · have q1 := ((hW.keep.2 _ _ _ (by decide) HFB.out).cell 2 : W.cell? ⟨fb, 2, none⟩ = some (.int .i64 lo))
                unfold Oper.wp
                simp [go_sem, q1]
                try exact ⟨_, rfl, rfl⟩
              simp only [Act.put, List.setIfInBounds_toArray, List.set_cons_succ, List.set_cons_zero]
              refine ⟨fun W hW => ?_, ?_⟩
              · unfold Oper.wp
                simp [go_sem]
                refine (HK2.out W).mono ?_
                rintro e w' ⟨rfl, hb⟩
                have hN : JD3 wf base vq Nq xq K1 K2 K3 B6 2 w' (upd vals 1 (.string K2)) := ⟨Nat.le_trans hW.low hb.size, hW.keep.trans (.below hW.low hb), ⟨hW.fix.1, rfl, hW.fix.2.2.1, hW.fix.2.2.2⟩, fun _ => own_only (hW.row (by decide)) hb, fun h => absurd h (by decide), fun h => absurd h (by decide), fun h => absurd h (by decide)⟩
                first | exact hN | exact ⟨_, rfl, hN⟩
              simp only [Act.put, List.setIfInBounds_toArray, List.set_cons_succ, List.set_cons_zero]
              refine ⟨fun kk hkk W hW => ?_, ?_⟩
              · have q1 := hW.fix.2.1
                unfold Oper.wp
                simp [go_sem, q1, zB4, hB4]
                try exact ⟨_, rfl, rfl⟩
              simp only [Act.put, List.setIfInBounds_toArray, List.set_cons_succ, List.set_cons_zero]
              refine ⟨fun kk hkk W hW => ?_, ?_⟩
              · unfold Oper.wp
                simp [go_sem, zB5, hB5]
                try exact ⟨_, rfl, rfl⟩
              simp only [Act.put, List.setIfInBounds_toArray, List.set_cons_succ, List.set_cons_zero]
              refine ⟨fun kk hkk W hW => ?_, ?_⟩
              · unfold Oper.wp
                simp [go_sem]
                try exact ⟨_, rfl, rfl⟩
              simp only [Act.put, List.setIfInBounds_toArray, List.set_cons_succ, List.set_cons_zero]
              refine ⟨fun kk hkk W hW => ?_, ?_⟩
              · have q1 := ((hW.keep.2 _ _ _ (by decide) HFB.out).cell 3 : W.cell? ⟨fb, 3, none⟩ = some (.int .i64 va))
                unfold Oper.wp
                simp [go_sem, q1]
                try exact ⟨_, rfl, rfl⟩
              simp only [Act.put, List.setIfInBounds_toArray, List.set_cons_succ, List.set_cons_zero]
              refine ⟨fun W hW => ?_, ?_⟩
              · unfold Oper.wp
                simp [go_sem]
                refine (HK3.out W).mono ?_
                rintro e w' ⟨rfl, hb⟩
                have hN : JD3 wf base vq Nq xq K1 K2 K3 B6 3 w' (upd vals 2 (.string K3)) := ⟨Nat.le_trans hW.low hb.size, hW.keep.trans (.below hW.low hb), ⟨hW.fix.1, hW.fix.2.1, rfl, hW.fix.2.2.2⟩, fun _ => own_only (hW.row (by decide)) hb, fun h => absurd h (by decide), fun h => absurd h (by decide), fun h => absurd h (by decide)⟩
                first | exact hN | exact ⟨_, rfl, hN⟩
              simp only [Act.put, List.setIfInBounds_toArray, List.set_cons_succ, List.set_cons_zero]
              refine ⟨fun W hW => ?_, ?_⟩
              · have q1 := hW.fix.2.2.1
                have hN : JD3 wf base vq Nq xq K1 K2 K3 B6 4 W (upd vals 3 (.string B6)) := ⟨hW.low, hW.keep, ⟨hW.fix.1, hW.fix.2.1, hW.fix.2.2.1, rfl⟩, fun _ => hW.row (by decide), fun h => absurd h (by decide), fun h => absurd h (by decide), fun h => absurd h (by decide)⟩
                unfold Oper.wp
                simp [go_sem, q1, zB6, hB6]
                first | exact hN | exact ⟨_, rfl, hN⟩
              simp only [Act.put, List.setIfInBounds_toArray, List.set_cons_succ, List.set_cons_zero]
              refine ⟨fun W hW => ?_, ?_⟩
              · have q1 := hW.fix.2.2.2
                have hN : JD3 wf base vq Nq xq K1 K2 K3 B6 5 (W.alloc (.cells #[.string B6] 9)) (upd vals 4 (.slice (some ⟨W.heap.size, 0, none⟩) 1 1)) := ⟨Nat.le_trans hW.low (by simp), hW.keep.trans (.below hW.low ((Below.refl _ _).alloc (Nat.le_refl _) _)), ⟨hW.fix.1, hW.fix.2.1, hW.fix.2.2.1, hW.fix.2.2.2⟩, fun _ => (hW.row (by decide)).alloc _, fun _ => ⟨W.heap.size, rfl, Has.new _ _ _⟩, fun h => absurd h (by decide), fun h => absurd h (by decide)⟩
                unfold Oper.wp
                simp [go_sem, q1]
                first | exact hN | exact ⟨_, rfl, hN⟩
              simp only [Act.put, List.setIfInBounds_toArray, List.set_cons_succ, List.set_cons_zero]
              refine ⟨fun W hW => ?_, ?_⟩
              · obtain ⟨qb, hq, hqh⟩ := hW.arr rfl
                have hro := hW.row (by decide)
                refine wp_append_own W _ _ 28 rfl base 9 i0 (.string ⟨#[]⟩) 1 16 Tryz.underlying28 hi0 hz0 hz1 hz2 rfl (by decide) _ _ _ rfl hro ⟨qb, 0, none⟩ 1 1 [.string B6] hq rfl (fun j u hu => by
                  match j, hu with
                  | 0, hu => simp at hu; subst hu; have := hqh.cell 0; simpa [Addr.add] using this) (by intro u hu; simp at hu; subst hu; rfl) (by unfold maxLen; omega) (by omega) hW.low (fun v' w' h1 h2 _ => ?_)
                have hN : JD3 wf base vq Nq xq K1 K2 K3 B6 6 w' (upd vals 5 v') := ⟨Nat.le_trans hW.low h2.size, hW.keep.trans (.app hro hW.low h2), ⟨hW.fix.1, hW.fix.2.1, hW.fix.2.2.1, hW.fix.2.2.2⟩, fun h => absurd h (by decide), fun h => absurd h (by decide), fun _ => h1, fun h => absurd h (by decide)⟩
                exact ⟨_, rfl, hN⟩
              simp only [Act.put, List.setIfInBounds_toArray, List.set_cons_succ, List.set_cons_zero]
              refine ⟨fun W hW => ?_, trivial⟩
              have hN : JD3 wf base vq Nq xq K1 K2 K3 B6 7 W (upd vals 6 (vals 5)) := ⟨hW.low, hW.keep, ⟨hW.fix.1, hW.fix.2.1, hW.fix.2.2.1, hW.fix.2.2.2⟩, fun h => absurd h (by decide), fun h => absurd h (by decide), fun h => absurd h (by decide), fun _ => hW.app rfl⟩
              unfold Oper.wp
              simp [go_sem]
              first | exact hN | exact ⟨_, rfl, hN⟩
            · intro W vals hJ
              have hfin := hJ.fin rfl
              have HR' : Hid (W.ownsRow base 9 1 (vals 6) (S ++ [B6]).length ((S ++ [B6]).map Value.string)) := by
                show W.ownsRow _ _ _ _ _ _
                rw [List.length_append, HNQ.out, List.map_append, HXQ.out]; exact hfin
              have HB' := hidden (HBF.out.trans hJ.keep.1)
              have hSl' : (S ++ [B6]).length ≤ 100 + (k + 1) := by rw [List.length_append, HNQ.out]; simp; omega
              simp only [putAll, List.map_cons, List.map_nil, Job.val, Act.put, List.setIfInBounds_toArray, List.set_cons_succ, List.set_cons_zero]
              obtain ⟨vv, hvv⟩ : ∃ q, vals 6 = q := ⟨_, rfl⟩
              rw [hvv] at HR' ⊢
              clear hJ hfin hJ0 HFB HRF HBF hvv
              go_wp2_with fail
              go_roundw
              case rel => exact ⟨k + 1, _, by go_num, by omega, HSN, HR', HB', hSl'⟩
              case measure => simp [intOf]; omega
        · have hi : ¬ (k : Int) < (m : Int) := by omega
          have HF : Hid (S = dumpT l ms) := by
            show _ = _
            have e : ms.take k = ms := List.take_of_length_le (by rw [← HM.out]; omega)
            rw [hS.out]
            unfold symsTo
            rcases ok with _ | _
            · unfold dumpT; rw [HOK.out]; rfl
            · rw [if_pos rfl, e, dumpT_yes HOK.out]
          rw [HF.out] at hrow
          clear hS
          go_wp2_with fail
          go_ret
          exact ⟨_, rfl, own_low hrow.out HBL.out, HXB.out.trans (hb.out.mono HBL.out)⟩
end Go.Proofs.YtpfombelhajmlaaGreatDoor

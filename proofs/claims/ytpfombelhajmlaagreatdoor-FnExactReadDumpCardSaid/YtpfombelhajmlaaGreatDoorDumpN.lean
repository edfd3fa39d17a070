import Derived.IntWalk
import Derived.Deep.CutBlock
import Derived.Lib.ItoaNum
import Derived.Test.YtpfombelhajmlaaGreatDoorDumpP
import Derived.Test.YtpfombelhajmlaaGreatDoorMem
import Derived.Test.YtpfombelhajmlaaGreatDoorRegionV
namespace Go.Proofs.YtpfombelhajmlaaGreatDoor
open Go.RowKit
theorem strOfNums_append (a b : List Int) : strOfNums (a ++ b) = strOfNums a ++ strOfNums b := by
  refine ByteArray.ext (Array.ext' ?_)
  rw [strOfNums_data, List.map_append, ByteArray.data_append, Array.toList_append, strOfNums_data, strOfNums_data]
theorem numsOf_strOfNums {l : List Int} (h : ∀ x ∈ l, 0 ≤ x ∧ x < 256) : numsOf (strOfNums l) = l := by
  unfold numsOf
  rw [strOfNums_data, List.map_map]
  conv => rhs; rw [← List.map_id l]
  refine List.map_congr_left fun x hx => ?_
  have := h x hx
  show ((UInt8.ofNat x.toNat).toNat : Int) = x
  rw [UInt8.toNat_ofNat']
  omega
theorem empty_append (s : ByteArray) : (⟨#[]⟩ : ByteArray) ++ s = s := by
  refine ByteArray.ext (Array.ext' ?_)
  rw [ByteArray.data_append, Array.toList_append]; rfl
def decTail (x : Int) : ByteArray := if 9 < x then strOfNums (decL (x / 10).toNat) else ⟨#[]⟩
theorem dec_split {x : Int} (h : 0 ≤ x) : strOfNums (decL x.toNat) = decTail x ++ strOfNums [48 + x % 10] := by
  obtain ⟨n, rfl⟩ := Int.eq_ofNat_of_zero_le h
  unfold decTail
  by_cases h9 : (9 : Int) < (n : Int)
  · rw [if_pos h9, Int.toNat_natCast, decL_high (by omega), strOfNums_append]
    have e1 : ((n : Int) / 10).toNat = n / 10 := by omega
    have e2 : ((n % 10 : Nat) : Int) = (n : Int) % 10 := by omega
    rw [e1, e2]
  · rw [if_neg h9, Int.toNat_natCast, decL_low (by omega), empty_append]
    have : (n : Int) % 10 = n := by omega
    rw [this]
set_option maxRecDepth 100000 in
set_option maxHeartbeats 1000000 in
theorem l8Number_any (w : World) (n : Int) (h0 : -1000000000 ≤ n) (h1 : n ≤ 1000000000) :
    Calls Tryz.prog 29 #[.int .i64 n] w fun e w' => e = .returned (.string (strOfNums (numL n))) ∧ Below w.heap.size w w' := by
  have hcv : ∀ (y : Int) (W : World), (convert 22 9 (.slice (some ⟨W.heap.size, 0, none⟩) 1 1)).run Tryz.prog (W.alloc (.cells #[.int .u8 y] 5)) = .ok (.string (strOfNums [y])) (W.alloc (.cells #[.int .u8 y] 5)) := fun y W =>
    run_convert_bytes_arg (P := Tryz.prog) _ 22 5 Tryz.underlying22 Tryz.underlying5 W.heap.size 0 1 1 [y] rfl (fun i hi => by
      have : i = 0 := by omega
      subst this
      rw [(Has.new W 5 #[.int .u8 y]).cell]
      rfl) 9 Tryz.underlying9
  have HCV := hidden hcv
  obtain ⟨T, hT⟩ : ∃ T, strOfNums (numL n) = T := ⟨_, rfl⟩
  rw [hT]
  by_cases hn : n < 0
  · obtain ⟨X, hX⟩ : ∃ X : Int, -n = X := ⟨_, rfl⟩
    have hX0 : 0 < X := by omega
    have hX1 : X ≤ 1000000000 := by omega
    have hw : IntKind.i64.wrap (-n) = X := by rw [hX]; exact IntWalk.i64_in _ (by omega)
    have HT : Hid (T = ⟨#[45]⟩ ++ strOfNums (decL X.toNat)) := by
      show _ = _
      rw [← hT]
      unfold numL
      rw [if_pos hn, hX]
      exact strOfNums_append [45] _
    have HZ0 : Hid ((strOfNums [48 + X % 10]).size = 1) := by show _ = _; rw [strOfNums_size]; rfl
    clear hT hX hcv
    go_enter Tryz.func29, Tryz.ntmps29
    have hcv := HCV.out
    go_wp2_with fail
    clear hcv
    go_loopw [0, 4] (fun m v wr => ∃ (x : Int) (s : ByteArray), m = .int .i64 x ∧ v = .string s ∧ 0 ≤ x ∧ (s.size : Int) + x ≤ 1000000001 ∧ Hid (strOfNums (decL X.toNat) = decTail x ++ s) ∧ Hid (Below w.heap.size w wr)) (fun m _ _ => (intOf m).toNat)
    case atStart => exact ⟨X, _, rfl, rfl, by omega, by rw [HZ0.out]; omega, dec_split (by omega), (Below.refl _ _).alloc (Nat.le_refl _) _⟩
    case round =>
      obtain ⟨x, s, rfl, rfl, hx0, hsx, hd, hb⟩ := hrel
      by_cases hx : 9 < x
      · have hcv := HCV.out
        have HZ : Hid ((strOfNums [48 + x / 10 % 10]).size = 1) := by show _ = _; rw [strOfNums_size]; rfl
        have hy : ¬ 9223372036854775807 < (strOfNums [48 + x / 10 % 10]).size + s.size := by rw [strOfNums_size]; simp; omega
        have hx1 : x ≤ 1000000001 := by omega
        have HD : Hid (strOfNums (decL X.toNat) = decTail (x / 10) ++ (strOfNums [48 + x / 10 % 10] ++ s)) := by
          show _ = _
          have e : decTail x = strOfNums (decL (x / 10).toNat) := by unfold decTail; rw [if_pos hx]
          rw [hd.out, e, dec_split (by omega), ByteArray.append_assoc]
        have HB := hidden (hb.out.alloc hb.out.size (.cells #[.int .u8 (48 + x / 10 % 10)] 5))
        clear hd hb
        go_wp2_with fail
        go_roundw
        case rel => exact ⟨x / 10, _, rfl, rfl, by omega, by rw [ByteArray.size_append, HZ.out]; omega, HD, HB⟩
        case measure => simp [intOf]; omega
      · have hs1 : ¬ 9223372036854775807 < (⟨#[45]⟩ : ByteArray).size + s.size := by rw [show (⟨#[45]⟩ : ByteArray).size = 1 from rfl]; omega
        have HF : Hid (strOfNums (decL X.toNat) = s) := by
          show _ = _
          have e : decTail x = ⟨#[]⟩ := by unfold decTail; rw [if_neg hx]
          rw [hd.out, e, empty_append]
        clear hd
        go_wp2_with fail
        go_ret
        exact ⟨by rw [HT.out, HF.out]; rfl, hb.out⟩
  · obtain ⟨X, hX⟩ : ∃ X : Int, n = X := ⟨_, rfl⟩
    have hX0 : 0 ≤ X := by omega
    have hX1 : X ≤ 1000000000 := by omega
    have HT : Hid (T = strOfNums (decL X.toNat)) := by
      show _ = _
      rw [← hT, ← hX]
      unfold numL
      rw [if_neg hn]
    have HZ0 : Hid ((strOfNums [48 + X % 10]).size = 1) := by show _ = _; rw [strOfNums_size]; rfl
    subst hX
    clear hT hcv
    obtain ⟨X, hX⟩ : ∃ X : Int, n = X := ⟨_, rfl⟩
    rw [hX] at hn hX0 hX1 HT HZ0 ⊢
    clear hX
    go_enter Tryz.func29, Tryz.ntmps29
    have hcv := HCV.out
    go_wp2_with fail
    clear hcv
    go_loopw [0, 4] (fun m v wr => ∃ (x : Int) (s : ByteArray), m = .int .i64 x ∧ v = .string s ∧ 0 ≤ x ∧ (s.size : Int) + x ≤ 1000000001 ∧ Hid (strOfNums (decL X.toNat) = decTail x ++ s) ∧ Hid (Below w.heap.size w wr)) (fun m _ _ => (intOf m).toNat)
    case atStart => exact ⟨X, _, rfl, rfl, by omega, by rw [HZ0.out]; omega, dec_split (by omega), (Below.refl _ _).alloc (Nat.le_refl _) _⟩
    case round =>
      obtain ⟨x, s, rfl, rfl, hx0, hsx, hd, hb⟩ := hrel
      by_cases hx : 9 < x
      · have hcv := HCV.out
        have HZ : Hid ((strOfNums [48 + x / 10 % 10]).size = 1) := by show _ = _; rw [strOfNums_size]; rfl
        have hy : ¬ 9223372036854775807 < (strOfNums [48 + x / 10 % 10]).size + s.size := by rw [strOfNums_size]; simp; omega
        have hx1 : x ≤ 1000000001 := by omega
        have HD : Hid (strOfNums (decL X.toNat) = decTail (x / 10) ++ (strOfNums [48 + x / 10 % 10] ++ s)) := by
          show _ = _
          have e : decTail x = strOfNums (decL (x / 10).toNat) := by unfold decTail; rw [if_pos hx]
          rw [hd.out, e, dec_split (by omega), ByteArray.append_assoc]
        have HB := hidden (hb.out.alloc hb.out.size (.cells #[.int .u8 (48 + x / 10 % 10)] 5))
        clear hd hb
        go_wp2_with fail
        go_roundw
        case rel => exact ⟨x / 10, _, rfl, rfl, by omega, by rw [ByteArray.size_append, HZ.out]; omega, HD, HB⟩
        case measure => simp [intOf]; omega
      · have hs1 : ¬ 9223372036854775807 < s.size := by omega
        have HF : Hid (strOfNums (decL X.toNat) = s) := by
          show _ = _
          have e : decTail x = ⟨#[]⟩ := by unfold decTail; rw [if_neg hx]
          rw [hd.out, e, empty_append]
        clear hd
        go_wp2_with fail
        go_ret
        exact ⟨by rw [HT.out, HF.out, ← empty_append s]; rfl, hb.out⟩
set_option maxRecDepth 100000 in
theorem run_digit (W : World) (d : Int) (h0 : 0 ≤ d) (h1 : d < 16) : (Instr.sliceAt 9 (.string ⟨#[48, 49, 50, 51, 52, 53, 54, 55, 56, 57, 97, 98, 99, 100, 101, 102]⟩) (some (.int .u8 d)) (some (.int .u8 (d + 1))) none).run Tryz.prog W = .ok (.string (strOfNums [hexD d])) W := by
  have hc : d = 0 ∨ d = 1 ∨ d = 2 ∨ d = 3 ∨ d = 4 ∨ d = 5 ∨ d = 6 ∨ d = 7 ∨ d = 8 ∨ d = 9 ∨ d = 10 ∨ d = 11 ∨ d = 12 ∨ d = 13 ∨ d = 14 ∨ d = 15 := by omega
  rcases hc with rfl | rfl | rfl | rfl | rfl | rfl | rfl | rfl | rfl | rfl | rfl | rfl | rfl | rfl | rfl | rfl <;> (clear h0 h1; show _ = _; kernel_rfl)
theorem hexL_snoc {l : List Int} {k : Nat} {b : Int} (h : l[k]? = some b) : hexL (l.take (k + 1)) = hexL (l.take k) ++ [hexD (b / 16), hexD (b % 16)] := flat_snoc _ h
set_option maxRecDepth 100000 in
set_option maxHeartbeats 2000000 in
theorem hexText'_any (w : World) (B : Nat) (a : Option Addr) (c n : Nat) (l : List Int) (hn : n = l.length) (h : Ints w .u8 B a l) (hB : B ≤ w.heap.size) (hlen : n ≤ 1000000000) :
    Calls Tryz.prog 31 #[.slice a n c] w fun e w' => e = .returned (.string (strOfNums (hexL l))) ∧ Below w.heap.size w w' := by
  have HI := hidden (fun (W : World) (hW : Below w.heap.size w W) => h.below (hW.mono hB))
  have HN := hidden hn
  have HS := hidden (fun (W : World) (d : Int) (h0 : 0 ≤ d) (h1 : d < 16) => run_digit W d h0 h1)
  clear h hn
  go_enter Tryz.func31, Tryz.ntmps31
  go_wp2_with fail
  go_loopw [3, 4] (fun v i wr => ∃ (k : Nat) (s : ByteArray), v = .string s ∧ i = .int .i64 k ∧ k ≤ n ∧ Hid (s = strOfNums (hexL (l.take k))) ∧ s.size = 2 * k ∧ Hid (Below w.heap.size w wr)) (fun _ i _ => n - (intOf i).toNat)
  case atStart => exact ⟨0, _, rfl, rfl, Nat.zero_le _, (by show _ = _; rfl), rfl, Below.refl _ _⟩
  case round =>
    obtain ⟨k, s, rfl, rfl, hk, hs, hsz, hb⟩ := hrel
    by_cases hlt : k < n
    · have hi : (k : Int) < (n : Int) := by omega
      have hkl : k < l.length := by rw [← HN.out]; exact hlt
      obtain ⟨b, off, rfl, hbB, hc⟩ := (HI.out wr hb.out).at_ hkl
      obtain ⟨x, hx⟩ : ∃ x, l.getD k 0 = x := ⟨_, rfl⟩
      have hxw := wf_u8.mp ((HI.out wr hb.out).wfAt hkl)
      rw [hx] at hc hxw
      have hx2 : l[k]? = some x := by rw [← hx, List.getD_eq_getElem?_getD, List.getElem?_eq_getElem hkl]; rfl
      have HSN : Hid (s ++ strOfNums [hexD (x / 16)] ++ strOfNums [hexD (x % 16)] = strOfNums (hexL (l.take (k + 1)))) := by
        show _ = _
        rw [hs.out, hexL_snoc hx2, ByteArray.append_assoc, ← strOfNums_append, ← strOfNums_append]; rfl
      have hd1 : ∀ W : World, (Instr.sliceAt 9 (.string ⟨#[48, 49, 50, 51, 52, 53, 54, 55, 56, 57, 97, 98, 99, 100, 101, 102]⟩) (some (.int .u8 (x / 16))) (some (.int .u8 (x / 16 + 1))) none).run Tryz.prog W = .ok (.string (strOfNums [hexD (x / 16)])) W := fun W => HS.out W _ (by omega) (by omega)
      have hd2 : ∀ W : World, (Instr.sliceAt 9 (.string ⟨#[48, 49, 50, 51, 52, 53, 54, 55, 56, 57, 97, 98, 99, 100, 101, 102]⟩) (some (.int .u8 (x % 16))) (some (.int .u8 (x % 16 + 1))) none).run Tryz.prog W = .ok (.string (strOfNums [hexD (x % 16)])) W := fun W => HS.out W _ (by omega) (by omega)
      have hz1 : (strOfNums [hexD (x / 16)]).size = 1 := by rw [strOfNums_size]; rfl
      have hz2 : (strOfNums [hexD (x % 16)]).size = 1 := by rw [strOfNums_size]; rfl
      have hc' : ∀ m : Nat, (wr.drewN m).cell? ⟨b, off + k, none⟩ = some (.int .u8 x) := fun m => hc
      clear hs hx hx2 hkl
      go_wp2_with fail
      go_quiet (fail)
      have HSZ : Hid ((s ++ strOfNums [hexD (x / 16)] ++ strOfNums [hexD (x % 16)]).size = 2 * (k + 1)) := by show _ = _; rw [ByteArray.size_append, ByteArray.size_append, hz1, hz2]; omega
      have HB := hidden (below_drewN hb.out nq)
      clear hb hd1 hd2 hc' hz1 hz2 hc
      go_wp2_with fail
      go_roundw
      case rel => exact ⟨k + 1, _, rfl, by go_num, by omega, HSN, HSZ.out, HB⟩
      case measure => simp [intOf]; omega
    · have hi : ¬ (k : Int) < (n : Int) := by omega
      have HF : Hid (s = strOfNums (hexL l)) := by
        show _ = _
        have e : l.take k = l := List.take_of_length_le (by rw [← HN.out]; omega)
        rw [hs.out, e]
      clear hs
      go_wp2_with fail
      go_ret
      exact ⟨by rw [← HF.out]; rfl, hb.out⟩
end Go.Proofs.YtpfombelhajmlaaGreatDoor
namespace Go.Proofs.YtpfombelhajmlaaGreatDoor
open Go.RowKit
theorem decDigits_dec (u : Nat) : (⟨(Lib.decDigits u).toArray⟩ : ByteArray) = strOfNums (decL u) := by
  refine ByteArray.ext (Array.ext' ?_)
  rw [strOfNums_data]
  show Lib.decDigits u = _
  induction u using Nat.strongRecOn with
  | _ u ih =>
    unfold Lib.decDigits
    split
    · rename_i h
      rw [decL_low h]
      show _ = [UInt8.ofNat (48 + (u : Int)).toNat]
      rw [show (48 + (u : Int)).toNat = 48 + u by omega]
    · rename_i h
      rw [decL_high h, List.map_append, ih (u / 10) (by omega)]
      show _ ++ _ = _ ++ [UInt8.ofNat (48 + ((u % 10 : Nat) : Int)).toNat]
      rw [show (48 + ((u % 10 : Nat) : Int)).toNat = 48 + u % 10 by omega]
def numT (n : Int) : ByteArray := strOfNums (numL n)
theorem itoa_num (n : Int) : (⟨(Lib.itoa n).toArray⟩ : ByteArray) = numT n := by
  unfold Lib.itoa numT numL
  split
  · rw [show n.natAbs = (-n).toNat by omega]
    have := decDigits_dec (-n).toNat
    refine ByteArray.ext (Array.ext' ?_)
    have h2 := congrArg (fun s : ByteArray => s.data.toList) this
    rw [strOfNums_data] at h2 ⊢
    show 45 :: Lib.decDigits _ = _
    rw [List.map_cons, ← h2]
    rfl
  · exact decDigits_dec _
def addW (L : List Int) (s : ByteArray) : List Int := (if L = [] then L else L ++ [32]) ++ numsOf s
def joinW (L : List Int) (S : List ByteArray) : List Int := S.foldl addW L
def lenW : List ByteArray → Nat
  | [] => 0
  | s :: r => s.size + 1 + lenW r
theorem lenW_append : ∀ (a b : List ByteArray), lenW (a ++ b) = lenW a + lenW b
  | [], b => by simp [lenW]
  | s :: r, b => by rw [List.cons_append, lenW, lenW, lenW_append r b]; omega
theorem addW_length (L : List Int) (s : ByteArray) : (addW L s).length ≤ L.length + s.size + 1 := by
  unfold addW
  rw [List.length_append, numsOf_length]
  split
  · omega
  · rw [List.length_append, List.length_singleton]; omega
theorem joinW_length : ∀ (S : List ByteArray) (L : List Int), (joinW L S).length ≤ L.length + lenW S
  | [], L => by simp [joinW, lenW]
  | s :: r, L => by
    have h1 := joinW_length r (addW L s)
    have h2 := addW_length L s
    show (joinW (addW L s) r).length ≤ _
    rw [lenW]; omega
theorem joinW_snoc {S : List ByteArray} {k : Nat} {s : ByteArray} (h : S[k]? = some s) (L : List Int) : joinW L (S.take (k + 1)) = addW (joinW L (S.take k)) s := by
  unfold joinW
  rw [List.take_add_one, h, List.foldl_append]
  rfl
theorem lenW_snoc {S : List ByteArray} {k : Nat} {s : ByteArray} (h : S[k]? = some s) : lenW (S.take k) + s.size + 1 ≤ lenW S := by
  have e : S = S.take (k + 1) ++ S.drop (k + 1) := (List.take_append_drop _ _).symm
  have : lenW S = lenW (S.take (k + 1)) + lenW (S.drop (k + 1)) := by rw [← lenW_append, ← e]
  rw [List.take_add_one, h, lenW_append] at this
  simp only [Option.toList_some, lenW] at this
  omega
theorem addW_first (s : ByteArray) : addW [] s = numsOf s := by unfold addW; simp
theorem addW_next {L : List Int} (h : L ≠ []) (s : ByteArray) : addW L s = L ++ 32 :: numsOf s := by unfold addW; rw [if_neg h]; simp
theorem addW_ne {L : List Int} (h : L ≠ []) (s : ByteArray) : addW L s ≠ [] := by rw [addW_next h]; simp [h]
theorem numL_wf (n : Int) : ∀ c ∈ numL n, 0 ≤ c ∧ c < 256 := fun c hc => by have := numL_chars n c hc; omega
theorem numsOf_numT (n : Int) : numsOf (numT n) = numL n := numsOf_strOfNums (numL_wf n)
theorem numL_size {n : Int} (h : I64 n) : (numL n).length ≤ 21 := by
  obtain ⟨h0, h1⟩ := h
  unfold numL
  split
  · have := decL_length 19 (-n).toNat (by omega); rw [List.length_cons]; omega
  · have := decL_length 19 n.toNat (by omega); omega
theorem numT_size' {n : Int} (h : I64 n) : (numT n).size ≤ 21 := by unfold numT; rw [strOfNums_size]; exact numL_size h
end Go.Proofs.YtpfombelhajmlaaGreatDoor

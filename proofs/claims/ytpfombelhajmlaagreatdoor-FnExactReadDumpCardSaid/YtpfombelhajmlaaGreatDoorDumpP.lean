import Derived.Test.YtpfombelhajmlaaGreatDoorObjV
import Derived.Test.YtpfombelhajmlaaGreatDoorWriteS
import Derived.Test.YtpfombelhajmlaaGreatDoorFoundP
namespace Go.Proofs.YtpfombelhajmlaaGreatDoor
open Go.RowKit
def decL (n : Nat) : List Int := if _ : n < 10 then [48 + (n : Int)] else decL (n / 10) ++ [48 + ((n % 10 : Nat) : Int)]
termination_by n
decreasing_by omega
def numL (n : Int) : List Int := if n < 0 then 45 :: decL (-n).toNat else decL n.toNat
theorem decL_low {n : Nat} (h : n < 10) : decL n = [48 + (n : Int)] := by rw [decL, dif_pos h]
theorem decL_high {n : Nat} (h : ¬ n < 10) : decL n = decL (n / 10) ++ [48 + ((n % 10 : Nat) : Int)] := by rw [decL, dif_neg h]
def digC (c : Int) : Bool := decide (48 ≤ c ∧ c ≤ 57)
theorem decL_digits (n : Nat) : ∀ c ∈ decL n, 48 ≤ c ∧ c ≤ 57 := by
  induction n using Nat.strongRecOn with
  | _ n ih =>
    intro c hc
    by_cases h : n < 10
    · rw [decL_low h] at hc
      simp only [List.mem_singleton] at hc
      omega
    · rw [decL_high h] at hc
      rcases List.mem_append.1 hc with hc | hc
      · exact ih (n / 10) (by omega) c hc
      · simp only [List.mem_singleton] at hc
        omega
theorem decL_length : ∀ (j n : Nat), n < 10 ^ (j + 1) → (decL n).length ≤ j + 1
  | 0, n, h => by
    rw [decL_low (by simpa using h)]; simp
  | j + 1, n, h => by
    by_cases h10 : n < 10
    · rw [decL_low h10]; simp
    · rw [decL_high h10, List.length_append]
      have := decL_length j (n / 10) (by rw [Nat.pow_succ] at h; omega)
      simp only [List.length_singleton]
      omega
def rdDig : List Int → Nat → Int → Option Int
  | [], _, n => some n
  | c :: r, k, n => if digC c && decide (k ≤ 5) then rdDig r (k + 1) (10 * n + (c - 48)) else none
theorem rdDig_dec (n : Nat) : ∀ (r : List Int) (k : Nat) (a : Int), k + (decL n).length ≤ 6 → rdDig (decL n ++ r) k a = rdDig r (k + (decL n).length) (a * 10 ^ (decL n).length + n) := by
  induction n using Nat.strongRecOn with
  | _ n ih =>
    intro r k a hk
    by_cases h : n < 10
    · rw [decL_low h] at hk ⊢
      simp only [List.length_singleton] at hk
      rw [List.singleton_append, rdDig, if_pos (by unfold digC; simp; omega)]
      simp only [List.length_singleton]
      congr 1
      omega
    · rw [decL_high h] at hk ⊢
      rw [List.length_append] at hk ⊢
      simp only [List.length_singleton] at hk ⊢
      rw [List.append_assoc, ih (n / 10) (by omega) _ k a (by omega), List.singleton_append, rdDig, if_pos (by unfold digC; simp; omega)]
      congr 1
      rw [Int.pow_succ]
      generalize a = x
      generalize (10 : Int) ^ (decL (n / 10)).length = p
      have : x * (p * 10) = 10 * (x * p) := by rw [← Int.mul_assoc, Int.mul_comm]
      rw [this]
      omega
def rdNum (s : List Int) : Int :=
  match (if s.head? = some 45 then rdDig s.tail 1 0 else rdDig s 0 0) with
  | none => 99999
  | some n => if numL (if s.head? = some 45 then -n else n) = s then (if s.head? = some 45 then -n else n) else 99999
theorem decL_head (n : Nat) : (decL n).head? ≠ some 45 := fun e => by
  have hm : (45 : Int) ∈ decL n := by
    cases hd : decL n with
    | nil => rw [hd] at e; cases e
    | cons c r => rw [hd] at e; injection e with e; rw [e]; simp
  have := decL_digits n 45 hm
  omega
theorem rdNum_num {n : Int} (h0 : -99999 ≤ n) (h1 : n ≤ 99999) : rdNum (numL n) = n := by
  unfold rdNum
  by_cases hn : n < 0
  · have e : numL n = 45 :: decL (-n).toNat := by unfold numL; rw [if_pos hn]
    have hl : (decL (-n).toNat).length ≤ 5 := decL_length 4 _ (by omega)
    rw [e]
    simp only [List.head?_cons, if_true, List.tail_cons]
    have hd := rdDig_dec (-n).toNat [] 1 0 (by omega)
    rw [List.append_nil] at hd
    rw [hd, rdDig]
    simp only
    have e2 : -(0 * (10 : Int) ^ (decL (-n).toNat).length + ((-n).toNat : Int)) = n := by rw [Int.zero_mul]; omega
    rw [e2, e, if_pos rfl]
  · have e : numL n = decL n.toNat := by unfold numL; rw [if_neg hn]
    have hl : (decL n.toNat).length ≤ 5 := decL_length 4 _ (by omega)
    rw [e, if_neg (decL_head _)]
    have hd := rdDig_dec n.toNat [] 0 0 (by omega)
    rw [List.append_nil] at hd
    rw [hd, rdDig]
    simp only [if_neg (decL_head _)]
    have e2 : 0 * (10 : Int) ^ (decL n.toNat).length + (n.toNat : Int) = n := by rw [Int.zero_mul]; omega
    rw [e2, e, if_pos rfl]
theorem numL_chars (n : Int) : ∀ c ∈ numL n, c = 45 ∨ (48 ≤ c ∧ c ≤ 57) := fun c hc => by
  unfold numL at hc
  split at hc
  · rcases List.mem_cons.1 hc with h | h
    · exact .inl h
    · exact .inr (decL_digits _ c h)
  · exact .inr (decL_digits _ c hc)
def hexD (d : Int) : Int := if d < 10 then 48 + d else 87 + d
def hexL (l : List Int) : List Int := l.flatMap fun b => [hexD (b / 16), hexD (b % 16)]
def hexV (c : Int) : Int := if 48 ≤ c ∧ c ≤ 57 then c - 48 else if 97 ≤ c ∧ c ≤ 102 then c - 87 else -1
theorem hexV_D {d : Int} (h0 : 0 ≤ d) (h1 : d < 16) : hexV (hexD d) = d := by
  unfold hexV hexD
  split <;> split <;> (try split) <;> omega
theorem hexD_V {c : Int} (h : 0 ≤ hexV c) : hexD (hexV c) = c ∧ hexV c < 16 := by
  unfold hexV at h ⊢
  unfold hexD
  split at h
  · rename_i hc
    rw [if_pos hc]
    split <;> omega
  · rename_i hc
    split at h
    · rename_i hd
      rw [if_neg hc, if_pos hd]
      split <;> omega
    · omega
theorem hexL_length (l : List Int) : (hexL l).length = 2 * l.length := by
  unfold hexL
  induction l with
  | nil => rfl
  | cons b r ih => rw [List.flatMap_cons, List.length_append, ih, List.length_cons]; simp; omega
def rdHexL : List Int → Option (List Int)
  | [] => some []
  | [_] => none
  | a :: b :: r => if 0 ≤ hexV a ∧ 0 ≤ hexV b then (rdHexL r).map fun q => (16 * hexV a + hexV b) :: q else none
theorem rdHexL_hex : ∀ (l : List Int), (∀ x ∈ l, 0 ≤ x ∧ x < 256) → rdHexL (hexL l) = some l
  | [], _ => rfl
  | b :: r, h => by
    have hb := h b (by simp)
    have ih := rdHexL_hex r (fun x hx => h x (by simp [hx]))
    have e1 : hexV (hexD (b / 16)) = b / 16 := hexV_D (by omega) (by omega)
    have e2 : hexV (hexD (b % 16)) = b % 16 := hexV_D (by omega) (by omega)
    show rdHexL (hexD (b / 16) :: hexD (b % 16) :: hexL r) = _
    rw [rdHexL, e1, e2, if_pos ⟨by omega, by omega⟩, ih, Option.map_some]
    congr 2
    omega
theorem rdHexL_some : ∀ (s l : List Int), rdHexL s = some l → hexL l = s ∧ ∀ x ∈ l, 0 ≤ x ∧ x < 256
  | [], l, h => by
    injection h with h; subst h; exact ⟨rfl, by simp⟩
  | [_], l, h => by cases h
  | a :: b :: r, l, h => by
    rw [rdHexL] at h
    split at h
    · rename_i hv
      cases hq : rdHexL r with
      | none => rw [hq] at h; cases h
      | some q =>
        rw [hq, Option.map_some] at h
        injection h with h
        subst h
        obtain ⟨i1, i2⟩ := rdHexL_some r q hq
        obtain ⟨a1, a2⟩ := hexD_V hv.1
        obtain ⟨b1, b2⟩ := hexD_V hv.2
        refine ⟨?_, fun x hx => ?_⟩
        · show hexD ((16 * hexV a + hexV b) / 16) :: hexD ((16 * hexV a + hexV b) % 16) :: hexL q = _
          rw [i1, show (16 * hexV a + hexV b) / 16 = hexV a by omega, show (16 * hexV a + hexV b) % 16 = hexV b by omega, a1, b1]
        · rcases List.mem_cons.1 hx with rfl | hx
          · omega
          · exact i2 x hx
    · cases h
theorem hexL_chars (l : List Int) (h : ∀ x ∈ l, 0 ≤ x ∧ x < 256) : ∀ c ∈ hexL l, 48 ≤ c ∧ c ≤ 102 := fun c hc => by
  unfold hexL at hc
  obtain ⟨b, hb, hc⟩ := List.mem_flatMap.1 hc
  have := h b hb
  simp only [List.mem_cons, List.not_mem_nil, or_false] at hc
  unfold hexD at hc
  rcases hc with rfl | rfl <;> split <;> omega
def wordsL : List Int → List (List Int)
  | [] => [[]]
  | c :: r => if c = 32 then [] :: wordsL r else match wordsL r with
    | w :: q => (c :: w) :: q
    | [] => [[c]]
theorem wordsL_one : ∀ (a : List Int), (∀ c ∈ a, c ≠ 32) → wordsL a = [a]
  | [], _ => rfl
  | c :: r, h => by
    rw [wordsL, if_neg (h c (by simp)), wordsL_one r (fun x hx => h x (by simp [hx]))]
theorem wordsL_next : ∀ (a b : List Int), (∀ c ∈ a, c ≠ 32) → wordsL (a ++ 32 :: b) = a :: wordsL b
  | [], b, _ => by rw [List.nil_append, wordsL, if_pos rfl]
  | c :: r, b, h => by
    rw [List.cons_append, wordsL, if_neg (h c (by simp)), wordsL_next r b (fun x hx => h x (by simp [hx]))]
theorem wordsL_ne (s : List Int) : wordsL s ≠ [] := by
  cases s with
  | nil => simp [wordsL]
  | cons c r =>
    rw [wordsL]
    split
    · simp
    · split <;> simp
theorem wordsL_space : ∀ (p : List Int), wordsL (p ++ [32]) = wordsL p ++ [[]]
  | [] => by simp [wordsL]
  | c :: r => by
    rw [List.cons_append, wordsL, wordsL, wordsL_space r]
    split
    · simp
    · cases h : wordsL r with
      | nil => exact absurd h (wordsL_ne r)
      | cons w q => simp
theorem wordsL_byte {x : Int} (hx : x ≠ 32) : ∀ (p : List Int), wordsL (p ++ [x]) = (wordsL p).dropLast ++ [((wordsL p).getLast?).getD [] ++ [x]]
  | [] => by simp [wordsL, hx]
  | c :: r => by
    rw [List.cons_append, wordsL, wordsL, wordsL_byte hx r]
    cases h : wordsL r with
    | nil => exact absurd h (wordsL_ne r)
    | cons w q =>
      split
      · cases q with
        | nil => simp
        | cons u v => simp
      · cases q with
        | nil => simp
        | cons u v => simp
def tSec : List Int := [115, 101, 99, 116, 105, 111, 110]
def tFix : List Int := [102, 105, 120, 117, 112]
def tSym : List Int := [115, 121, 109, 98, 111, 108]
def secT (s : Sx) : List Int := tSec ++ 32 :: (numsOf s.name ++ 32 :: (numL s.kind ++ 32 :: (numL s.align ++ 32 :: (numL s.long ++ if 0 < s.bytes.length then 32 :: hexL s.bytes else []))))
def fixT (f : Fx) : List Int := tFix ++ 32 :: (numL f.pl ++ 32 :: (numL f.kind ++ 32 :: (numL f.to ++ 32 :: numL f.add)))
def symT (m : Sm) : List Int := tSym ++ 32 :: (numsOf m.name ++ 32 :: (numL m.bind ++ 32 :: (numL m.loc ++ 32 :: numL m.value)))
def dumpL (ss : List Sx) (ms : List Sm) : List (List Int) := (ss.flatMap fun s => secT s :: s.fixs.map fixT) ++ ms.map symT
def dumpStep (o : List Sx × List Sm) (line : List Int) : Option (List Sx × List Sm) :=
  if (wordsL line).getD 0 [] = tSec ∧ 5 ≤ (wordsL line).length ∧ (wordsL line).length ≤ 6 then
    some (o.1 ++ [⟨strOfNums ((wordsL line).getD 1 []), rdNum ((wordsL line).getD 2 []), rdNum ((wordsL line).getD 3 []), if (wordsL line).length = 6 then (rdHexL ((wordsL line).getD 5 [])).getD [] else [], if rdNum ((wordsL line).getD 2 []) = 3 then rdNum ((wordsL line).getD 4 []) else 0, []⟩], o.2)
  else if (wordsL line).getD 0 [] = tFix ∧ (wordsL line).length = 5 ∧ 0 < o.1.length then
    some (o.1.dropLast ++ (o.1.getLast?.toList.map fun s => { s with fixs := s.fixs ++ [⟨rdNum ((wordsL line).getD 1 []), rdNum ((wordsL line).getD 2 []), rdNum ((wordsL line).getD 3 []), rdNum ((wordsL line).getD 4 [])⟩] }), o.2)
  else if (wordsL line).getD 0 [] = tSym ∧ (wordsL line).length = 5 then
    some (o.1, o.2 ++ [⟨strOfNums ((wordsL line).getD 1 []), rdNum ((wordsL line).getD 2 []), rdNum ((wordsL line).getD 3 []), rdNum ((wordsL line).getD 4 [])⟩])
  else none
def parseD : List Sx × List Sm → List (List Int) → Option (List Sx × List Sm)
  | o, [] => some o
  | o, x :: r => (dumpStep o x).bind fun o' => parseD o' r
theorem parseD_append : ∀ (o : List Sx × List Sm) (a b : List (List Int)), parseD o (a ++ b) = (parseD o a).bind fun o' => parseD o' b
  | o, [], b => rfl
  | o, x :: r, b => by
    rw [List.cons_append, parseD, parseD]
    cases dumpStep o x with
    | none => rfl
    | some o' => exact parseD_append o' r b
theorem name_chars {s : ByteArray} (h : nameOk s.data.toList = true) : ∀ c ∈ numsOf s, c ≠ 32 := fun c hc e => by
  subst e
  unfold numsOf at hc
  obtain ⟨u, hu, e⟩ := List.mem_map.1 hc
  obtain ⟨i, hi, rfl⟩ := List.getElem_of_mem hu
  have := ((nameOk_iff _).1 h).2 i hi
  unfold okAt letterC digitC at this
  rw [List.getD_eq_getElem?_getD, List.getElem?_eq_getElem hi] at this
  simp only [Option.getD_some, Bool.or_eq_true, Bool.and_eq_true, decide_eq_true_eq] at this
  omega
theorem num_chars (n : Int) : ∀ c ∈ numL n, c ≠ 32 := fun c hc => by have := numL_chars n c hc; omega
theorem hex_chars {l : List Int} (h : ∀ x ∈ l, 0 ≤ x ∧ x < 256) : ∀ c ∈ hexL l, c ≠ 32 := fun c hc => by have := hexL_chars l h c hc; omega
theorem sec_words {s : Sx} (hn : nameOk s.name.data.toList = true) (hb : ∀ x ∈ s.bytes, 0 ≤ x ∧ x < 256) :
    wordsL (secT s) = [tSec, numsOf s.name, numL s.kind, numL s.align, numL s.long] ++ if 0 < s.bytes.length then [hexL s.bytes] else [] := by
  unfold secT
  rw [wordsL_next _ _ (by unfold tSec; simp), wordsL_next _ _ (name_chars hn), wordsL_next _ _ (num_chars _), wordsL_next _ _ (num_chars _)]
  by_cases h : 0 < s.bytes.length
  · rw [if_pos h, if_pos h, wordsL_next _ _ (num_chars _), wordsL_one _ (hex_chars hb)]; rfl
  · rw [if_neg h, if_neg h, List.append_nil, wordsL_one _ (num_chars _)]; rfl
theorem fix_words (f : Fx) : wordsL (fixT f) = [tFix, numL f.pl, numL f.kind, numL f.to, numL f.add] := by
  unfold fixT
  rw [wordsL_next _ _ (by unfold tFix; simp), wordsL_next _ _ (num_chars _), wordsL_next _ _ (num_chars _), wordsL_next _ _ (num_chars _), wordsL_one _ (num_chars _)]
theorem sym_words {m : Sm} (hn : nameOk m.name.data.toList = true) : wordsL (symT m) = [tSym, numsOf m.name, numL m.bind, numL m.loc, numL m.value] := by
  unfold symT
  rw [wordsL_next _ _ (by unfold tSym; simp), wordsL_next _ _ (name_chars hn), wordsL_next _ _ (num_chars _), wordsL_next _ _ (num_chars _), wordsL_one _ (num_chars _)]
theorem step_sec {s : Sx} {many : Int} (h : sectOk s many = true) (hb : ∀ x ∈ s.bytes, 0 ≤ x ∧ x < 256) (a : List Sx) (ms : List Sm) : dumpStep (a, ms) (secT s) = some (a ++ [{ s with fixs := [] }], ms) := by
  obtain ⟨hn, -, -, l0, l1, -⟩ := sect_parts h
  obtain ⟨⟨k0, k1⟩, ⟨g0, g1⟩, -⟩ := sect_bytes h
  have hz : (s.kind = 3 → s.bytes = []) ∧ (s.kind ≠ 3 → s.size = 0) := by
    unfold sectOk at h
    simp only [Bool.and_eq_true, decide_eq_true_eq] at h
    obtain ⟨-, h7⟩ := h
    refine ⟨fun e => ?_, fun e => ?_⟩
    · rw [if_pos e] at h7
      simp only [Bool.and_eq_true, decide_eq_true_eq] at h7
      exact List.eq_nil_of_length_eq_zero h7.1
    · rw [if_neg e] at h7
      simp only [Bool.and_eq_true, decide_eq_true_eq] at h7
      exact h7.2
  have e3 : rdNum (numL s.kind) = s.kind := rdNum_num (by omega) (by omega)
  have e4 : rdNum (numL s.align) = s.align := rdNum_num (by omega) (by omega)
  have e5 : rdNum (numL s.long) = s.long := rdNum_num (by omega) (by omega)
  have e1 : strOfNums (numsOf s.name) = s.name := strOfNums_numsOf _
  have hs : (if s.kind = 3 then s.long else 0) = s.size := by
    unfold Sx.long
    split
    · rfl
    · rename_i hk; exact (hz.2 hk).symm
  unfold dumpStep
  rw [sec_words hn hb]
  by_cases hl : 0 < s.bytes.length
  · rw [if_pos hl]
    rw [if_pos (by simp)]
    simp only [List.cons_append, List.nil_append, List.getD_cons_zero, List.getD_cons_succ, List.length_cons, List.length_nil, e1, e3, e4, e5, hs, rdHexL_hex s.bytes hb, Option.getD_some]
    rfl
  · rw [if_neg hl]
    have hnil : s.bytes = [] := List.eq_nil_of_length_eq_zero (by omega)
    rw [if_pos (by simp)]
    simp only [List.append_nil, List.getD_cons_zero, List.getD_cons_succ, List.length_cons, List.length_nil, e1, e3, e4, e5, hs, hnil]
    rfl
def fixNear (f : Fx) : Prop := (-99999 ≤ f.pl ∧ f.pl ≤ 99999) ∧ (-99999 ≤ f.kind ∧ f.kind ≤ 99999) ∧ (-99999 ≤ f.to ∧ f.to ≤ 99999) ∧ (-99999 ≤ f.add ∧ f.add ≤ 99999)
theorem step_fix {f : Fx} (h : fixNear f) (a : List Sx) (s : Sx) (ms : List Sm) : dumpStep (a ++ [s], ms) (fixT f) = some (a ++ [{ s with fixs := s.fixs ++ [f] }], ms) := by
  obtain ⟨⟨a0, a1⟩, ⟨b0, b1⟩, ⟨c0, c1⟩, d0, d1⟩ := h
  unfold dumpStep
  rw [fix_words]
  rw [if_neg (by simp [tSec, tFix]), if_pos (by simp)]
  simp only [List.getD_cons_zero, List.getD_cons_succ, rdNum_num a0 a1, rdNum_num b0 b1, rdNum_num c0 c1, rdNum_num d0 d1]
  simp
theorem step_sym {m : Sm} (hn : nameOk m.name.data.toList = true) (h1 : -99999 ≤ m.bind ∧ m.bind ≤ 99999) (h2 : -99999 ≤ m.loc ∧ m.loc ≤ 99999) (h3 : -99999 ≤ m.value ∧ m.value ≤ 99999) (ss : List Sx) (a : List Sm) : dumpStep (ss, a) (symT m) = some (ss, a ++ [m]) := by
  have e1 : strOfNums (numsOf m.name) = m.name := strOfNums_numsOf _
  unfold dumpStep
  rw [sym_words hn]
  rw [if_neg (by simp [tSec, tSym]), if_neg (by simp [tFix, tSym]), if_pos (by simp)]
  simp only [List.getD_cons_zero, List.getD_cons_succ, rdNum_num h1.1 h1.2, rdNum_num h2.1 h2.2, rdNum_num h3.1 h3.2, e1]
theorem parse_fixs (a : List Sx) (ms : List Sm) : ∀ (b : List Fx) (s : Sx), (∀ f ∈ b, fixNear f) → parseD (a ++ [s], ms) (b.map fixT) = some (a ++ [{ s with fixs := s.fixs ++ b }], ms)
  | [], s, _ => by simp [parseD]
  | f :: r, s, h => by
    rw [List.map_cons, parseD, step_fix (h f (by simp))]
    show parseD (a ++ [{ s with fixs := s.fixs ++ [f] }], ms) (r.map fixT) = _
    rw [parse_fixs a ms r _ (fun g hg => h g (by simp [hg]))]
    simp
theorem sect_near {s : Sx} {many : Int} (h : sectOk s many = true) (hm : many ≤ 12) : ∀ f ∈ s.fixs, fixNear f := fun f hf => by
  obtain ⟨q1, q2, q3, q4⟩ := (sect_bytes h).2.2 f hf
  exact ⟨⟨by omega, by omega⟩, ⟨by omega, by omega⟩, ⟨by omega, by omega⟩, ⟨by omega, by omega⟩⟩
theorem parse_secs (many : Int) (hm : many ≤ 12) (ms : List Sm) : ∀ (b a : List Sx), (∀ s ∈ b, sectOk s many = true) → (∀ s ∈ b, ∀ x ∈ s.bytes, 0 ≤ x ∧ x < 256) → parseD (a, ms) (b.flatMap fun s => secT s :: s.fixs.map fixT) = some (a ++ b, ms)
  | [], a, _, _ => by simp [parseD]
  | s :: r, a, h, hb => by
    rw [List.flatMap_cons, parseD_append, parseD, step_sec (h s (by simp)) (hb s (by simp))]
    show (parseD (a ++ [{ s with fixs := [] }], ms) (s.fixs.map fixT)).bind _ = _
    rw [parse_fixs a ms s.fixs _ (sect_near (h s (by simp)) hm)]
    show parseD (a ++ [{ s with fixs := [] ++ s.fixs }], ms) _ = _
    rw [List.nil_append, parse_secs many hm ms r _ (fun z hz => h z (by simp [hz])) (fun z hz => hb z (by simp [hz]))]
    simp
theorem parse_syms (ss : List Sx) : ∀ (b a : List Sm), (∀ m ∈ b, nameOk m.name.data.toList = true ∧ (-99999 ≤ m.bind ∧ m.bind ≤ 99999) ∧ (-99999 ≤ m.loc ∧ m.loc ≤ 99999) ∧ (-99999 ≤ m.value ∧ m.value ≤ 99999)) → parseD (ss, a) (b.map symT) = some (ss, a ++ b)
  | [], a, _ => by simp [parseD]
  | m :: r, a, h => by
    obtain ⟨h0, h1, h2, h3⟩ := h m (by simp)
    rw [List.map_cons, parseD, step_sym h0 h1 h2 h3]
    show parseD (ss, a ++ [m]) (r.map symT) = _
    rw [parse_syms ss r _ (fun z hz => h z (by simp [hz]))]
    simp
theorem parse_dump {ss : List Sx} {ms : List Sm} (h : objOk ss ms = true) (hb : ∀ s ∈ ss, ∀ x ∈ s.bytes, 0 ≤ x ∧ x < 256) : parseD ([], []) (dumpL ss ms) = some (ss, ms) := by
  have hk : objOk ((ss.map fun s => (⟨s, none, 0, none, 0⟩ : Sp)).map Sp.s) ms = true := by
    rw [List.map_map]
    have : (Sp.s ∘ fun s => (⟨s, none, 0, none, 0⟩ : Sp)) = id := rfl
    rw [this, List.map_id]; exact h
  have ht := objOk_told hk
  have hms := ht.syms
  have hsec : ∀ s ∈ ss, sectOk s ms.length = true := fun s hs => ht.sec ⟨s, none, 0, none, 0⟩ (List.mem_map.2 ⟨s, hs, rfl⟩)
  have hsym : ∀ m ∈ ms, nameOk m.name.data.toList = true ∧ (-99999 ≤ m.bind ∧ m.bind ≤ 99999) ∧ (-99999 ≤ m.loc ∧ m.loc ≤ 99999) ∧ (-99999 ≤ m.value ∧ m.value ≤ 99999) := fun m hm => by
    obtain ⟨b1, b2⟩ := sym_bytes ht hm
    have hv := sym_value ht hm
    have hs := ht.sym m hm
    unfold symOk at hs
    simp only [Bool.and_eq_true] at hs
    exact ⟨hs.1.1, ⟨by omega, by omega⟩, ⟨by omega, by omega⟩, ⟨by omega, by omega⟩⟩
  unfold dumpL
  rw [parseD_append, parse_secs ms.length (by omega) [] ss [] hsec hb, List.nil_append]
  show parseD (ss, []) (ms.map symT) = _
  rw [parse_syms ss ms [] hsym, List.nil_append]
def rdD (lines : List (List Int)) : Option (List Sx × List Sm) :=
  match parseD ([], []) lines with
  | some (ss, ms) => if objOk ss ms && decide (dumpL ss ms = lines) then some (ss, ms) else none
  | none => none
theorem rdD_some {lines : List (List Int)} {ss : List Sx} {ms : List Sm} (h : rdD lines = some (ss, ms)) : objOk ss ms = true ∧ dumpL ss ms = lines := by
  unfold rdD at h
  split at h
  · split at h
    · rename_i hk
      injection h with h
      injection h with h1 h2
      subst h1 h2
      simp only [Bool.and_eq_true, decide_eq_true_eq] at hk
      exact hk
    · cases h
  · cases h
theorem rdD_dump {ss : List Sx} {ms : List Sm} (h : objOk ss ms = true) (hb : ∀ s ∈ ss, ∀ x ∈ s.bytes, 0 ≤ x ∧ x < 256) : rdD (dumpL ss ms) = some (ss, ms) := by
  unfold rdD
  rw [parse_dump h hb]
  simp [h]
end Go.Proofs.YtpfombelhajmlaaGreatDoor

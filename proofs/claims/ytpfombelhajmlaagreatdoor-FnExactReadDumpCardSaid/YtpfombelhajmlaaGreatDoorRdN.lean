import Derived.Lib.Split
import Derived.Lib.SplitLaws
import Derived.Lib.AtoiAll
import Derived.IntWalk
import Derived.Deep.QuietTactic
import Derived.BigQuiet
import Derived.Test.YtpfombelhajmlaaGreatDoorDumpN
import Derived.Test.YtpfombelhajmlaaGreatDoorLawD3
import Derived.Test.YtpfombelhajmlaaGreatDoorLawD4
import Derived.Test.YtpfombelhajmlaaGreatDoorShelf
import Derived.Test.YtpfombelhajmlaaGreatDoorRead7B
import Derived.Test.YtpfombelhajmlaaGreatDoorObI
namespace Go.Proofs.YtpfombelhajmlaaGreatDoor
open Go.RowKit
def toI (c : UInt8) : Int := (c.toNat : Int)
theorem index_head (l : List UInt8) : Lib.index (32 :: l) [32] = 0 := by rw [Lib.index]; simp [List.isPrefixOf]
theorem index_tail {c : UInt8} (h : c ≠ 32) (l : List UInt8) : Lib.index (c :: l) [32] = if Lib.index l [32] == -1 then -1 else Lib.index l [32] + 1 := by
  rw [Lib.index]
  have : ([32] : List UInt8).isPrefixOf (c :: l) = false := by simp [List.isPrefixOf]; exact fun e => h e.symm
  rw [this]; rfl
theorem index_nil : Lib.index [] [(32 : UInt8)] = -1 := by decide
theorem words_none : ∀ {l : List UInt8}, Lib.index l [32] = -1 → wordsL (l.map toI) = [l.map toI]
  | [], _ => rfl
  | c :: r, h => by
    by_cases hc : c = 32
    · subst hc; rw [index_head] at h; cases h
    · rw [index_tail hc] at h
      have hge := Lib.index_ge r [32]
      have hr : Lib.index r [32] = -1 := by
        by_cases e : Lib.index r [32] = -1
        · exact e
        · rw [if_neg (by simpa using e)] at h; omega
      have hn : toI c ≠ 32 := fun e => hc (by
        unfold toI at e
        have : c.toNat = 32 := by omega
        exact UInt8.toNat_inj.1 this)
      rw [List.map_cons, wordsL, if_neg hn, words_none hr]
theorem splitK_words : ∀ (l : List UInt8) (k : Nat), (wordsL (l.map toI)).length ≤ k + 1 → (Lib.splitK [32] 0 k l).map (·.map toI) = wordsL (l.map toI)
  | [], k, _ => by
    cases k with
    | zero => rfl
    | succ k => rw [Lib.splitK, index_nil]; rfl
  | c :: r, k, h => by
    by_cases hc : c = 32
    · subst hc
      have e1 : wordsL ((32 :: r).map toI) = [] :: wordsL (r.map toI) := by rw [List.map_cons, wordsL, if_pos (by decide)]
      rw [e1] at h ⊢
      rw [List.length_cons] at h
      cases k with
      | zero => have := List.length_pos_iff.2 (wordsL_ne (r.map toI)); omega
      | succ k =>
        rw [Lib.splitK, index_head]
        have := splitK_words r k (by omega)
        simpa using this
    · have hn : toI c ≠ 32 := fun e => hc (by
        unfold toI at e
        have : c.toNat = 32 := by omega
        exact UInt8.toNat_inj.1 this)
      have e1 : wordsL ((c :: r).map toI) = match wordsL (r.map toI) with | w :: q => (toI c :: w) :: q | [] => [[toI c]] := by rw [List.map_cons, wordsL, if_neg hn]; rfl
      by_cases hi : Lib.index r [32] = -1
      · have e2 := words_none hi
        rw [e1, e2]
        cases k with
        | zero => rfl
        | succ k => rw [Lib.splitK, index_tail hc, hi]; rfl
      · have hge := Lib.index_ge r [32]
        obtain ⟨i, hii⟩ : ∃ i : Nat, Lib.index r [32] = i := ⟨(Lib.index r [32]).toNat, by omega⟩
        cases k with
        | zero =>
          exfalso
          rw [e1] at h
          have e3 := splitK_words r 1
          cases hw : wordsL (r.map toI) with
          | nil => exact wordsL_ne _ hw
          | cons w q =>
            rw [hw] at h e3
            simp only [List.length_cons] at h e3
            have hq : q = [] := List.eq_nil_of_length_eq_zero (by omega)
            subst hq
            have e4 := e3 (by simp)
            rw [Lib.splitK, if_neg (by simpa using hi), Lib.splitK] at e4
            simp at e4
        | succ k =>
          have ih := splitK_words r (k + 1)
          rw [e1] at h ⊢
          cases hw : wordsL (r.map toI) with
          | nil => exact absurd hw (wordsL_ne _)
          | cons w q =>
            rw [hw] at h ih
            have ih := ih (by simpa using h)
            rw [Lib.splitK, if_neg (by simpa using hi), hii] at ih
            have ht : Lib.index (c :: r) [32] = ((i + 1 : Nat) : Int) := by rw [index_tail hc, if_neg (by simpa using hi), hii]; omega
            rw [Lib.splitK, ht, if_neg (by simp; omega)]
            simp only [List.map_cons, Int.toNat_natCast, Nat.add_zero, List.cons.injEq] at ih ⊢
            obtain ⟨ih1, ih2⟩ := ih
            refine ⟨?_, ?_⟩
            · rw [List.take_succ_cons, List.map_cons, ih1]
            · rw [show i + 1 + ([32] : List UInt8).length = (i + ([32] : List UInt8).length) + 1 by simp, List.drop_succ_cons]
              exact ih2
def wordsI (s : ByteArray) : List ByteArray := Lib.splitB ⟨#[32]⟩ 0 (min 7 (s.size + 1) - 1) s
theorem wordsL_few : ∀ (l : List Int), (wordsL l).length ≤ l.length + 1
  | [] => by simp [wordsL]
  | c :: r => by
    have := wordsL_few r
    rw [wordsL, List.length_cons]
    split
    · rw [List.length_cons]; omega
    · cases hw : wordsL r with
      | nil => simp
      | cons w q => rw [hw, List.length_cons] at this; simp only [List.length_cons]; omega
theorem wordsI_few {s : ByteArray} (h : (wordsL (numsOf s)).length ≤ 7) : wordsI s = (wordsL (numsOf s)).map strOfNums := by
  have e0 : numsOf s = s.data.toList.map toI := rfl
  have h1 := wordsL_few (numsOf s)
  rw [numsOf_length] at h1
  have hk := splitK_words s.data.toList (min 7 (s.size + 1) - 1) (by rw [← e0]; omega)
  have hd := Lib.splitB_data ⟨#[32]⟩ 0 (min 7 (s.size + 1) - 1) s
  have e2 : (⟨#[32]⟩ : ByteArray).data.toList = [32] := rfl
  rw [e2] at hd
  rw [← hd, List.map_map, ← e0] at hk
  have hk2 : (wordsI s).map numsOf = wordsL (numsOf s) := hk
  rw [← hk2, List.map_map]
  conv => lhs; rw [← List.map_id (wordsI s)]
  exact List.map_congr_left fun t _ => (strOfNums_numsOf t).symm
def numI (t : ByteArray) : Option Int := match Lib.atoiAll t.data.toList with
  | .ok v => some v
  | _ => none
theorem parse_dec : ∀ (u acc : Nat) (r : List UInt8), acc * 10 ^ (Lib.decDigits u).length + u < 1844674407370955161 → Lib.parseUint10 acc (Lib.decDigits u ++ r) = Lib.parseUint10 (acc * 10 ^ (Lib.decDigits u).length + u) r := by
  intro u
  induction u using Nat.strongRecOn with
  | _ u ih =>
    intro acc r h
    have one : ∀ (d a : Nat), d < 10 → a < 1844674407370955161 → Lib.parseUint10 a (UInt8.ofNat (48 + d) :: r) = Lib.parseUint10 (a * 10 + d) r := fun d a hd ha => by
      have hc : (UInt8.ofNat (48 + d)).toNat = 48 + d := by rw [UInt8.toNat_ofNat']; omega
      rw [Lib.parseUint10, hc, if_pos (by omega), if_neg (by omega), if_neg (by omega)]
      congr 1
      omega
    by_cases hu : u < 10
    · have e : Lib.decDigits u = [UInt8.ofNat (48 + u)] := by rw [Lib.decDigits, dif_pos hu]
      rw [e] at h ⊢
      simp only [List.length_singleton, Nat.pow_one] at h ⊢
      exact one u acc hu (by omega)
    · have e : Lib.decDigits u = Lib.decDigits (u / 10) ++ [UInt8.ofNat (48 + u % 10)] := by rw [Lib.decDigits, dif_neg hu]
      rw [e] at h ⊢
      rw [List.length_append, List.length_singleton, Nat.pow_succ] at h ⊢
      have e2 : acc * (10 ^ (Lib.decDigits (u / 10)).length * 10) = (acc * 10 ^ (Lib.decDigits (u / 10)).length) * 10 := by rw [Nat.mul_assoc]
      rw [e2] at h ⊢
      obtain ⟨P, hP⟩ : ∃ P, acc * 10 ^ (Lib.decDigits (u / 10)).length = P := ⟨_, rfl⟩
      have ih := ih (u / 10) (by omega) acc (UInt8.ofNat (48 + u % 10) :: r)
      rw [hP] at h ih ⊢
      rw [List.append_assoc, List.singleton_append, ih (by omega), one (u % 10) (P + u / 10) (by omega) (by omega)]
      congr 1
      omega
theorem decDigits_ne (u : Nat) : Lib.decDigits u ≠ [] := by
  rw [Lib.decDigits]
  split <;> simp
theorem decDigits_plain (u : Nat) : ∀ c ∈ Lib.decDigits u, 48 ≤ c.toNat ∧ c.toNat ≤ 57 := by
  induction u using Nat.strongRecOn with
  | _ u ih =>
    intro c hc
    rw [Lib.decDigits] at hc
    have one : ∀ d, d < 10 → (UInt8.ofNat (48 + d)).toNat = 48 + d := fun d hd => by rw [UInt8.toNat_ofNat']; omega
    split at hc
    · rw [List.mem_singleton.1 hc, one u (by omega)]; omega
    · rcases List.mem_append.1 hc with h | h
      · exact ih (u / 10) (by omega) c h
      · rw [List.mem_singleton.1 h, one (u % 10) (by omega)]; omega
theorem mag_dec {u : Nat} (h : u < 1000000) : Lib.parseMag (Lib.decDigits u) = .ok u := by
  unfold Lib.parseMag
  rw [if_neg (decDigits_ne u)]
  have := parse_dec u 0 [] (by omega)
  rw [List.append_nil] at this
  rw [this, Lib.parseUint10]
  congr 1
  omega
theorem numI_num {n : Int} (h0 : -99999 ≤ n) (h1 : n ≤ 99999) : numI (numT n) = some n := by
  have hd : (numT n).data.toList = Lib.itoa n := by rw [← itoa_num]
  have key : Lib.atoiAll (Lib.itoa n) = .ok n := by
    by_cases hn : n < 0
    · have e : Lib.itoa n = 45 :: Lib.decDigits n.natAbs := by unfold Lib.itoa; rw [if_pos hn]
      rw [e]
      unfold Lib.atoiAll
      simp only [show ((45 : UInt8).toNat = 43 ∨ (45 : UInt8).toNat = 45) = True by simp, if_true, mag_dec (show n.natAbs < 1000000 by omega)]
      rw [if_neg (by simp), if_neg (by simp; omega)]
      simp
      omega
    · have e : Lib.itoa n = Lib.decDigits n.toNat := by unfold Lib.itoa; rw [if_neg hn]
      rw [e]
      have hm := mag_dec (show n.toNat < 1000000 by omega)
      have hp := decDigits_plain n.toNat
      cases hx : Lib.decDigits n.toNat with
      | nil => exact absurd hx (decDigits_ne _)
      | cons c r =>
        rw [hx] at hm hp
        have hc := hp c (by simp)
        unfold Lib.atoiAll
        simp only [show (c.toNat = 43 ∨ c.toNat = 45) = False by simp; omega, if_false, hm]
        rw [if_neg (by omega), if_neg (by omega), if_neg (by omega)]
        congr 1
        omega
  unfold numI
  rw [hd, key]
end Go.Proofs.YtpfombelhajmlaaGreatDoor
namespace Go.Proofs.YtpfombelhajmlaaGreatDoor
open Go.RowKit
abbrev wSec : ByteArray := ⟨#[115, 101, 99, 116, 105, 111, 110]⟩
abbrev wFix : ByteArray := ⟨#[102, 105, 120, 117, 112]⟩
abbrev wSym : ByteArray := ⟨#[115, 121, 109, 98, 111, 108]⟩
def numsI : List ByteArray → Option (List Int)
  | [] => some []
  | t :: r => (numI t).bind fun n => (numsI r).map (n :: ·)
def secI (told : List ByteArray) : Option Sx :=
  if told.length < 4 ∨ 5 < told.length then none else
    match numsI ((told.drop 1).take 3) with
    | some [k, a, z] =>
      if told.length = 5 then (rdHexL (numsOf (told.getD 4 ⟨#[]⟩))).map fun b => ⟨told.getD 0 ⟨#[]⟩, k, a, b, if k = 3 then z else 0, []⟩
      else some ⟨told.getD 0 ⟨#[]⟩, k, a, [], if k = 3 then z else 0, []⟩
    | _ => none
def fixI (told : List ByteArray) : Option Fx :=
  if told.length = 4 then match numsI told with
    | some [a, b, c, d] => some ⟨a, b, c, d⟩
    | _ => none
  else none
def symI (told : List ByteArray) : Option Sm :=
  if told.length = 4 then match numsI (told.drop 1) with
    | some [a, b, c] => some ⟨told.getD 0 ⟨#[]⟩, a, b, c⟩
    | _ => none
  else none
def stepI (o : List Sx × List Sm) (s : ByteArray) : Option (List Sx × List Sm) :=
  if (wordsI s).getD 0 ⟨#[]⟩ = wSec then (secI (wordsI s).tail).map fun x => (o.1 ++ [x], o.2)
  else if (wordsI s).getD 0 ⟨#[]⟩ = wFix then
    if o.1 = [] then none else (fixI (wordsI s).tail).map fun f => (o.1.dropLast ++ (o.1.getLast?.toList.map fun x => { x with fixs := x.fixs ++ [f] }), o.2)
  else if (wordsI s).getD 0 ⟨#[]⟩ = wSym then (symI (wordsI s).tail).map fun m => (o.1, o.2 ++ [m])
  else none
def parseI : List Sx × List Sm → List ByteArray → Option (List Sx × List Sm)
  | o, [] => some o
  | o, x :: r => (stepI o x).bind fun o' => parseI o' r
theorem parseI_append : ∀ (o : List Sx × List Sm) (a b : List ByteArray), parseI o (a ++ b) = (parseI o a).bind fun o' => parseI o' b
  | o, [], b => rfl
  | o, x :: r, b => by
    rw [List.cons_append, parseI, parseI]
    cases stepI o x with
    | none => rfl
    | some o' => exact parseI_append o' r b
theorem numsI_num : ∀ {l : List Int}, (∀ n ∈ l, -99999 ≤ n ∧ n ≤ 99999) → numsI (l.map fun n => strOfNums (numL n)) = some l
  | [], _ => rfl
  | n :: r, h => by
    rw [List.map_cons, numsI]
    have h1 := h n (by simp)
    have h2 : numI (strOfNums (numL n)) = some n := numI_num h1.1 h1.2
    rw [h2, numsI_num (fun m hm => h m (by simp [hm]))]
    rfl
theorem wordsI_sec {s : Sx} (hn : nameOk s.name.data.toList = true) (hb : ∀ x ∈ s.bytes, 0 ≤ x ∧ x < 256) : wordsI (strOfNums (secT s)) = [wSec, s.name, strOfNums (numL s.kind), strOfNums (numL s.align), strOfNums (numL s.long)] ++ (if 0 < s.bytes.length then [strOfNums (hexL s.bytes)] else []) := by
  have hw := sec_words hn hb
  have hn2 : numsOf (strOfNums (secT s)) = secT s := numsOf_strOfNums (secT_byte hb)
  have h7 : (wordsL (numsOf (strOfNums (secT s)))).length ≤ 7 := by rw [hn2, hw]; split <;> simp
  rw [wordsI_few h7, hn2, hw]
  have hS : strOfNums tSec = wSec := by decide
  split <;> simp [hS, strOfNums_numsOf]
theorem wordsI_fix (f : Fx) : wordsI (strOfNums (fixT f)) = [wFix, strOfNums (numL f.pl), strOfNums (numL f.kind), strOfNums (numL f.to), strOfNums (numL f.add)] := by
  have hw := fix_words f
  have hn2 : numsOf (strOfNums (fixT f)) = fixT f := numsOf_strOfNums (fixT_byte f)
  have h7 : (wordsL (numsOf (strOfNums (fixT f)))).length ≤ 7 := by rw [hn2, hw]; simp
  rw [wordsI_few h7, hn2, hw]
  have hS : strOfNums tFix = wFix := by decide
  simp [hS]
theorem wordsI_sym {m : Sm} (hn : nameOk m.name.data.toList = true) : wordsI (strOfNums (symT m)) = [wSym, m.name, strOfNums (numL m.bind), strOfNums (numL m.loc), strOfNums (numL m.value)] := by
  have hw := sym_words hn
  have hn2 : numsOf (strOfNums (symT m)) = symT m := numsOf_strOfNums (symT_byte m)
  have h7 : (wordsL (numsOf (strOfNums (symT m)))).length ≤ 7 := by rw [hn2, hw]; simp
  rw [wordsI_few h7, hn2, hw]
  have hS : strOfNums tSym = wSym := by decide
  simp [hS, strOfNums_numsOf]
theorem sect_size {s : Sx} {many : Int} (h : sectOk s many = true) : (if s.kind = 3 then s.long else 0) = s.size := by
  have hz : s.kind ≠ 3 → s.size = 0 := by
    unfold sectOk at h
    simp only [Bool.and_eq_true, decide_eq_true_eq] at h
    obtain ⟨-, h7⟩ := h
    intro e
    rw [if_neg e] at h7
    simp only [Bool.and_eq_true, decide_eq_true_eq] at h7
    exact h7.2
  unfold Sx.long
  split
  · rfl
  · rename_i hk; exact (hz hk).symm
theorem stepI_sec {s : Sx} {many : Int} (h : sectOk s many = true) (hb : ∀ x ∈ s.bytes, 0 ≤ x ∧ x < 256) (a : List Sx) (ms : List Sm) : stepI (a, ms) (strOfNums (secT s)) = some (a ++ [{ s with fixs := [] }], ms) := by
  obtain ⟨hn, hy48, -, hlg0, hlg1, -⟩ := sect_parts h
  obtain ⟨⟨k0, k1⟩, ⟨g0, g1⟩, -⟩ := sect_bytes h
  have hs := sect_size h
  have hnum := numsI_num (l := [s.kind, s.align, s.long]) (by simp; omega)
  simp only [List.map_cons, List.map_nil] at hnum
  have hhn : numsOf (strOfNums (hexL s.bytes)) = hexL s.bytes := numsOf_strOfNums fun c hc => by have := hexL_chars s.bytes hb c hc; omega
  unfold stepI
  rw [wordsI_sec hn hb]
  by_cases hl : 0 < s.bytes.length
  · rw [if_pos hl, if_pos (by simp)]
    unfold secI
    simp only [List.cons_append, List.nil_append, List.tail_cons, List.length_cons, List.length_nil, List.drop_succ_cons, List.drop_zero, List.take_succ_cons, List.take_zero, hnum, List.getD_cons_zero, List.getD_cons_succ, hhn, rdHexL_hex s.bytes hb, hs]
    simp
  · rw [if_neg hl, if_pos (by simp)]
    have hnil : s.bytes = [] := List.eq_nil_of_length_eq_zero (by omega)
    unfold secI
    simp only [List.append_nil, List.tail_cons, List.length_cons, List.length_nil, List.drop_succ_cons, List.drop_zero, List.take_succ_cons, List.take_zero, hnum, List.getD_cons_zero, hs, hnil]
    simp
theorem stepI_fix {f : Fx} (h : fixNear f) (a : List Sx) (s : Sx) (ms : List Sm) : stepI (a ++ [s], ms) (strOfNums (fixT f)) = some (a ++ [{ s with fixs := s.fixs ++ [f] }], ms) := by
  obtain ⟨q1, q2, q3, q4⟩ := h
  have hnum := numsI_num (l := [f.pl, f.kind, f.to, f.add]) (by simp; exact ⟨q1, q2, q3, q4⟩)
  simp only [List.map_cons, List.map_nil] at hnum
  unfold stepI
  rw [wordsI_fix, if_neg (by simp [wSec, wFix]), if_pos (by simp), if_neg (by simp)]
  unfold fixI
  simp only [List.tail_cons, List.length_cons, List.length_nil, hnum]
  simp
theorem stepI_sym {m : Sm} (hn : nameOk m.name.data.toList = true) (h1 : -99999 ≤ m.bind ∧ m.bind ≤ 99999) (h2 : -99999 ≤ m.loc ∧ m.loc ≤ 99999) (h3 : -99999 ≤ m.value ∧ m.value ≤ 99999) (ss : List Sx) (a : List Sm) : stepI (ss, a) (strOfNums (symT m)) = some (ss, a ++ [m]) := by
  have hnum := numsI_num (l := [m.bind, m.loc, m.value]) (by simp; exact ⟨h1, h2, h3⟩)
  simp only [List.map_cons, List.map_nil] at hnum
  unfold stepI
  rw [wordsI_sym hn, if_neg (by simp [wSec, wSym]), if_neg (by simp [wFix, wSym]), if_pos (by simp)]
  unfold symI
  simp only [List.tail_cons, List.length_cons, List.length_nil, List.drop_succ_cons, List.drop_zero, hnum]
  simp
theorem parseI_fixs (a : List Sx) (ms : List Sm) : ∀ (b : List Fx) (s : Sx), (∀ f ∈ b, fixNear f) → parseI (a ++ [s], ms) ((b.map fixT).map strOfNums) = some (a ++ [{ s with fixs := s.fixs ++ b }], ms)
  | [], s, _ => by simp [parseI]
  | f :: r, s, h => by
    rw [List.map_cons, List.map_cons, parseI, stepI_fix (h f (by simp))]
    show parseI (a ++ [{ s with fixs := s.fixs ++ [f] }], ms) ((r.map fixT).map strOfNums) = _
    rw [parseI_fixs a ms r _ (fun g hg => h g (by simp [hg]))]
    simp
theorem parseI_secs (many : Int) (hm : many ≤ 12) (ms : List Sm) : ∀ (b a : List Sx), (∀ s ∈ b, sectOk s many = true) → (∀ s ∈ b, ∀ x ∈ s.bytes, 0 ≤ x ∧ x < 256) → parseI (a, ms) ((b.flatMap fun s => secT s :: s.fixs.map fixT).map strOfNums) = some (a ++ b, ms)
  | [], a, _, _ => by simp [parseI]
  | s :: r, a, h, hb => by
    rw [List.flatMap_cons, List.map_append, parseI_append, List.map_cons, parseI, stepI_sec (h s (by simp)) (hb s (by simp))]
    show (parseI (a ++ [{ s with fixs := [] }], ms) ((s.fixs.map fixT).map strOfNums)).bind _ = _
    rw [parseI_fixs a ms s.fixs _ (sect_near (h s (by simp)) hm)]
    show parseI (a ++ [{ s with fixs := [] ++ s.fixs }], ms) _ = _
    rw [List.nil_append, parseI_secs many hm ms r _ (fun z hz => h z (by simp [hz])) (fun z hz => hb z (by simp [hz]))]
    simp
theorem parseI_syms (ss : List Sx) : ∀ (b a : List Sm), (∀ m ∈ b, nameOk m.name.data.toList = true ∧ (-99999 ≤ m.bind ∧ m.bind ≤ 99999) ∧ (-99999 ≤ m.loc ∧ m.loc ≤ 99999) ∧ (-99999 ≤ m.value ∧ m.value ≤ 99999)) → parseI (ss, a) ((b.map symT).map strOfNums) = some (ss, a ++ b)
  | [], a, _ => by simp [parseI]
  | m :: r, a, h => by
    obtain ⟨h0, h1, h2, h3⟩ := h m (by simp)
    rw [List.map_cons, List.map_cons, parseI, stepI_sym h0 h1 h2 h3]
    show parseI (ss, a ++ [m]) ((r.map symT).map strOfNums) = _
    rw [parseI_syms ss r _ (fun z hz => h z (by simp [hz]))]
    simp
theorem parseI_dump {ss : List Sx} {ms : List Sm} (h : objOk ss ms = true) (hb : ∀ s ∈ ss, ∀ x ∈ s.bytes, 0 ≤ x ∧ x < 256) : parseI ([], []) ((dumpL ss ms).map strOfNums) = some (ss, ms) := by
  have hk : objOk ((ss.map fun s => (⟨s, none, 0, none, 0⟩ : Sp)).map Sp.s) ms = true := by
    rw [List.map_map]
    have : (Sp.s ∘ fun s => (⟨s, none, 0, none, 0⟩ : Sp)) = id := rfl
    rw [this, List.map_id]; exact h
  have ht := objOk_told hk
  have hms := ht.syms
  have hsec : ∀ s ∈ ss, sectOk s ms.length = true := fun s hs => ht.sec ⟨s, none, 0, none, 0⟩ (List.mem_map.2 ⟨s, hs, rfl⟩)
  have hsym : ∀ m ∈ ms, nameOk m.name.data.toList = true ∧ (-99999 ≤ m.bind ∧ m.bind ≤ 99999) ∧ (-99999 ≤ m.loc ∧ m.loc ≤ 99999) ∧ (-99999 ≤ m.value ∧ m.value ≤ 99999) := fun m hm => by
    obtain ⟨b1, b2⟩ := sym_bytes ht hm
    have hv := sym_value ht hm
    have hs := ht.sym m hm
    unfold symOk at hs
    simp only [Bool.and_eq_true] at hs
    exact ⟨hs.1.1, ⟨by omega, by omega⟩, ⟨by omega, by omega⟩, ⟨by omega, by omega⟩⟩
  unfold dumpL
  rw [List.map_append, parseI_append, parseI_secs ms.length (by omega) [] ss [] hsec hb, List.nil_append]
  show parseI (ss, []) ((ms.map symT).map strOfNums) = _
  rw [parseI_syms ss ms [] hsym, List.nil_append]
def BytesOk (ss : List Sx) : Prop := ∀ s ∈ ss, ∀ x ∈ s.bytes, 0 ≤ x ∧ x < 256
theorem BytesOk.snoc {a : List Sx} {s : Sx} (h : BytesOk a) (hs : ∀ x ∈ s.bytes, 0 ≤ x ∧ x < 256) : BytesOk (a ++ [s]) := fun z hz => by
  rcases List.mem_append.1 hz with h1 | h1
  · exact h z h1
  · rw [List.mem_singleton.1 h1]; exact hs
theorem BytesOk.last {a : List Sx} (h : BytesOk a) (g : Sx → Sx) (hg : ∀ x, (g x).bytes = x.bytes) : BytesOk (a.dropLast ++ a.getLast?.toList.map g) := fun z hz => by
  rcases List.mem_append.1 hz with h1 | h1
  · exact h z (List.dropLast_subset a h1)
  · obtain ⟨y, hy, rfl⟩ := List.mem_map.1 h1
    rw [hg]
    cases hl : a.getLast? with
    | none => rw [hl] at hy; cases hy
    | some u =>
      rw [hl] at hy
      have : y = u := by simpa using hy
      subst this
      exact h y (List.mem_of_getLast? hl)
theorem secI_bytes {told : List ByteArray} {x : Sx} (h : secI told = some x) : ∀ b ∈ x.bytes, 0 ≤ b ∧ b < 256 := by
  unfold secI at h
  split at h
  · cases h
  · split at h
    · split at h
      · obtain ⟨b, hb, rfl⟩ := Option.map_eq_some_iff.1 h
        exact (rdHexL_some _ _ hb).2
      · injection h with h; subst h; intro b hb; cases hb
    · cases h
theorem stepI_bytes {o o' : List Sx × List Sm} {s : ByteArray} (h : stepI o s = some o') (hb : BytesOk o.1) : BytesOk o'.1 := by
  unfold stepI at h
  split at h
  · obtain ⟨x, hx, rfl⟩ := Option.map_eq_some_iff.1 h
    exact hb.snoc (secI_bytes hx)
  · split at h
    · split at h
      · cases h
      · obtain ⟨f, hf, rfl⟩ := Option.map_eq_some_iff.1 h
        exact hb.last _ fun _ => rfl
    · split at h
      · obtain ⟨m, hm, rfl⟩ := Option.map_eq_some_iff.1 h
        exact hb
      · cases h
theorem parseI_bytes : ∀ {S : List ByteArray} {o o' : List Sx × List Sm}, parseI o S = some o' → BytesOk o.1 → BytesOk o'.1
  | [], o, o', h, hb => by injection h with h; subst h; exact hb
  | s :: r, o, o', h, hb => by
    rw [parseI] at h
    obtain ⟨o1, h1, h2⟩ := Option.bind_eq_some_iff.1 h
    exact parseI_bytes h2 (stepI_bytes h1 hb)
theorem dumpStep_bytes {o o' : List Sx × List Sm} {s : List Int} (h : dumpStep o s = some o') (hb : BytesOk o.1) : BytesOk o'.1 := by
  unfold dumpStep at h
  split at h
  · injection h with h
    subst h
    refine hb.snoc ?_
    intro x hx
    simp only at hx
    split at hx
    · cases hr : rdHexL ((wordsL s).getD 5 []) with
      | none => rw [hr] at hx; cases hx
      | some l => rw [hr] at hx; exact (rdHexL_some _ _ hr).2 x hx
    · cases hx
  · split at h
    · injection h with h
      subst h
      exact hb.last _ fun _ => rfl
    · split at h
      · injection h with h
        subst h
        exact hb
      · cases h
theorem parseD_bytes : ∀ {S : List (List Int)} {o o' : List Sx × List Sm}, parseD o S = some o' → BytesOk o.1 → BytesOk o'.1
  | [], o, o', h, hb => by injection h with h; subst h; exact hb
  | s :: r, o, o', h, hb => by
    rw [parseD] at h
    obtain ⟨o1, h1, h2⟩ := Option.bind_eq_some_iff.1 h
    exact parseD_bytes h2 (dumpStep_bytes h1 hb)
theorem rdD_bytes {S : List (List Int)} {ss : List Sx} {ms : List Sm} (h : rdD S = some (ss, ms)) : BytesOk ss := by
  unfold rdD at h
  split at h
  · rename_i a b hp
    split at h
    · injection h with h
      injection h with h1 h2
      subst h1 h2
      exact parseD_bytes hp (fun s hs => by cases hs)
    · cases h
  · cases h
def rdI (S : List ByteArray) : Option (List Sx × List Sm) :=
  match parseI ([], []) S with
  | some o => if dumpX o.1 o.2 = S then some o else none
  | none => none
theorem dumpX_some {ss : List Sx} {ms : List Sm} {S : List ByteArray} (h : dumpX ss ms = S) (hne : S ≠ []) : objOk ss ms = true := by
  unfold dumpX at h
  split at h
  · assumption
  · exact absurd h.symm hne
theorem rdI_rdD (S : List ByteArray) : rdI S = rdD (S.map numsOf) := by
  cases hr : rdD (S.map numsOf) with
  | some o =>
    obtain ⟨ss, ms⟩ := o
    obtain ⟨h1, h2⟩ := rdD_some hr
    have hb := rdD_bytes hr
    have hS : S = (dumpL ss ms).map strOfNums := by
      rw [h2, List.map_map]
      conv => lhs; rw [← List.map_id S]
      exact List.map_congr_left fun t _ => (strOfNums_numsOf t).symm
    have hp := parseI_dump h1 hb
    rw [← hS] at hp
    unfold rdI
    rw [hp]
    have hd : dumpX ss ms = S := by unfold dumpX; rw [if_pos h1, hS]
    show (if dumpX ss ms = S then some (ss, ms) else none) = _
    rw [if_pos hd]
  | none =>
    unfold rdI
    cases hp : parseI ([], []) S with
    | none => rfl
    | some o =>
      obtain ⟨ss, ms⟩ := o
      simp only
      split
      · rename_i hd
        exfalso
        have hb : BytesOk ss := parseI_bytes hp (fun s hs => by cases hs)
        by_cases hS : S = []
        · subst hS
          have : rdD ([] : List (List Int)) = some ([], []) := rdD_dump (ss := []) (ms := []) (by rfl) (fun s hs => by cases hs)
          rw [List.map_nil, this] at hr
          cases hr
        · have hok := dumpX_some hd hS
          have := dumpX_nums hok hb
          rw [hd] at this
          rw [this, rdD_dump hok hb] at hr
          cases hr
      · rfl
end Go.Proofs.YtpfombelhajmlaaGreatDoor
namespace Go.Proofs.YtpfombelhajmlaaGreatDoor
open Go.RowKit
theorem atoi_any (W : World) (h : Libs W) (s : ByteArray) (hs : s.size ≤ 281474976710656) :
    Calls Tryz.prog 96 #[.string s] W fun e w' => Below W.heap.size W w' ∧ ((∃ n, numI s = some n ∧ I64 n ∧ e = .returned (.tuple #[.int .i64 n, .nilIface])) ∨ (numI s = none ∧ ∃ n t u, e = .returned (.tuple #[.int .i64 n, .iface t u]))) := by
  rcases ha : Lib.atoiAll s.data.toList with v | _ | _
  · refine (Tryz.strconv_Atoi_ok s (by omega) v ha W).mono ?_
    rintro e w' ⟨rfl, hw⟩
    refine ⟨?_, .inl ⟨v, by unfold numI; rw [ha], Lib.atoiAll_bounds ha, rfl⟩⟩
    rcases hw with rfl | ⟨t, rfl⟩
    · exact Below.refl _ _
    · exact Lib.bytesWorld_below _ _ _
  · obtain ⟨t, u, hv⟩ := h.syn
    refine (Tryz.strconv_Atoi_syntax s hs ha _ W hv (.inr ⟨t, u, rfl⟩)).mono ?_
    rintro e w' ⟨N, rfl, -, -, hb⟩
    exact ⟨hb, .inr ⟨by unfold numI; rw [ha], _, _, _, rfl⟩⟩
  · obtain ⟨t, u, hv⟩ := h.rng
    refine (Tryz.strconv_Atoi_range s hs ha _ W hv (.inr ⟨t, u, rfl⟩)).mono ?_
    rintro e w' ⟨N, rfl, -, -, hb⟩
    exact ⟨hb, .inr ⟨by unfold numI; rw [ha], _, _, _, rfl⟩⟩
end Go.Proofs.YtpfombelhajmlaaGreatDoor
namespace Go.Proofs.YtpfombelhajmlaaGreatDoor
open Go.RowKit
def WordsAt (W : World) (a : Option Addr) (ws : List ByteArray) : Prop := 0 < ws.length → ∃ g off cs, a = some ⟨g, off, none⟩ ∧ Has W g 9 cs ∧ ∀ i s, ws[i]? = some s → cs[off + i]? = some (.string s)
theorem WordsAt.below {W W' : World} {B : Nat} {a : Option Addr} {ws : List ByteArray} (h : WordsAt W a ws) (hb : Below B W W') (hB : W.heap.size ≤ B) : WordsAt W' a ws := fun hn => by
  obtain ⟨g, off, cs, e, hh, hc⟩ := h hn
  exact ⟨g, off, cs, e, hh.below hb (Nat.lt_of_lt_of_le hh.lt hB), hc⟩
theorem WordsAt.drop {W : World} {a : Option Addr} {ws : List ByteArray} {cap k : Nat} (h : WordsAt W a ws) (hc : ws.length ≤ cap) : WordsAt W (if cap = k then a else a.map (·.add (k * 1))) (ws.drop k) := fun hn => by
  rw [List.length_drop] at hn
  obtain ⟨g, off, cs, e, hh, hc⟩ := h (by omega)
  subst e
  refine ⟨g, off + k, cs, ?_, hh, fun i s hi => ?_⟩
  · rw [if_neg (by omega)]; simp [Addr.add]
  · rw [List.getElem?_drop] at hi
    rw [Nat.add_assoc]; exact hc _ s hi
theorem WordsAt.take {W : World} {a : Option Addr} {ws : List ByteArray} (h : WordsAt W a ws) (k : Nat) : WordsAt W a (ws.take k) := fun hn => by
  rw [List.length_take] at hn
  obtain ⟨g, off, cs, e, hh, hc⟩ := h (by omega)
  refine ⟨g, off, cs, e, hh, fun i s hi => ?_⟩
  rw [List.getElem?_take] at hi
  split at hi
  · exact hc i s hi
  · cases hi
def updN (ps : List (Nat × Nat)) (vs : List Int) (b : Nat) (cs : Array Value) : Array Value :=
  (ps.zip vs).foldl (fun cs x => if x.1.1 = b then cs.setIfInBounds x.1.2 (.int .i64 x.2) else cs) cs
theorem updN_snoc {ps : List (Nat × Nat)} {vs : List Int} (h : vs.length = ps.length) (p : Nat × Nat) (v : Int) (b : Nat) (cs : Array Value) :
    updN (ps ++ [p]) (vs ++ [v]) b cs = if p.1 = b then (updN ps vs b cs).setIfInBounds p.2 (.int .i64 v) else updN ps vs b cs := by
  unfold updN
  rw [List.zip_append h.symm, List.foldl_append]
  rfl
theorem updN_size (b : Nat) : ∀ (ps : List (Nat × Nat)) (vs : List Int) (cs : Array Value), (updN ps vs b cs).size = cs.size
  | [], vs, cs => by simp [updN]
  | p :: r, [], cs => by simp [updN]
  | p :: r, v :: vs, cs => by
    have := updN_size b r vs (if p.1 = b then cs.setIfInBounds p.2 (.int .i64 v) else cs)
    show (updN r vs b _).size = _
    rw [this]
    split
    · exact Array.size_setIfInBounds
    · rfl
theorem updN_other {b : Nat} : ∀ {ps : List (Nat × Nat)} {vs : List Int} {cs : Array Value}, (∀ p ∈ ps, p.1 ≠ b) → updN ps vs b cs = cs
  | [], vs, cs, _ => by simp [updN]
  | p :: r, [], cs, _ => by simp [updN]
  | p :: r, v :: vs, cs, h => by
    show updN r vs b (if p.1 = b then _ else cs) = cs
    rw [if_neg (h p (by simp))]
    exact updN_other fun q hq => h q (by simp [hq])
theorem numsI_snoc : ∀ {a : List ByteArray} {vs : List Int} {t : ByteArray} {n : Int}, numsI a = some vs → numI t = some n → numsI (a ++ [t]) = some (vs ++ [n])
  | [], vs, t, n, h, ht => by
    injection h with h
    subst h
    show (numI t).bind _ = _
    rw [ht]; rfl
  | x :: r, vs, t, n, h, ht => by
    rw [numsI] at h
    obtain ⟨m, hm, h2⟩ := Option.bind_eq_some_iff.1 h
    obtain ⟨us, hu, rfl⟩ := Option.map_eq_some_iff.1 h2
    rw [List.cons_append, numsI, hm, numsI_snoc hu ht]
    rfl
theorem numsI_bad : ∀ {a b : List ByteArray} {vs : List Int} {t : ByteArray}, numsI a = some vs → numI t = none → numsI (a ++ t :: b) = none
  | [], b, vs, t, h, ht => by
    show (numI t).bind _ = _
    rw [ht]; rfl
  | x :: r, b, vs, t, h, ht => by
    rw [numsI] at h
    obtain ⟨m, hm, h2⟩ := Option.bind_eq_some_iff.1 h
    obtain ⟨us, hu, rfl⟩ := Option.map_eq_some_iff.1 h2
    rw [List.cons_append, numsI, hm, numsI_bad hu ht]
    rfl
theorem numsI_length : ∀ {a : List ByteArray} {vs : List Int}, numsI a = some vs → vs.length = a.length
  | [], vs, h => by injection h with h; subst h; rfl
  | x :: r, vs, h => by
    rw [numsI] at h
    obtain ⟨m, hm, h2⟩ := Option.bind_eq_some_iff.1 h
    obtain ⟨us, hu, rfl⟩ := Option.map_eq_some_iff.1 h2
    rw [List.length_cons, List.length_cons, numsI_length hu]
def ReadA (W : World) (ps : List (Nat × Nat)) (r : Option (List Int)) (e : Ending) (w' : World) : Prop :=
  match r with
  | some vs => e = .returned (.bool true) ∧ ∀ b T cs, Has W b T cs → Has w' b T (updN ps vs b cs)
  | none => e = .returned (.bool false)
def ReadN (W : World) (B : Nat) (ws : List ByteArray) (ps : List (Nat × Nat)) (e : Ending) (w' : World) : Prop :=
  Below B W w' ∧ ReadA W ps (if ws.length = ps.length then numsI ws else none) e w'
set_option maxRecDepth 100000 in
set_option maxHeartbeats 4000000 in
theorem readNumbers_any (W : World) (hL : Libs W) (B : Nat) (hLB : libTop ≤ B) (hBW : B ≤ W.heap.size) (a : Option Addr) (n c : Nat) (ws : List ByteArray) (hn : n = ws.length) (hw : WordsAt W a ws) (hsz : ∀ s ∈ ws, s.size ≤ 281474976710656) (gp m d : Nat) (ps : List (Nat × Nat)) (hm : m = ps.length) (hp : Has W gp 115 (ps.map fun p => Value.pointer (some ⟨p.1, p.2, none⟩)).toArray)
    (hps : ∀ p ∈ ps, B ≤ p.1 ∧ ∃ T cs, Has W p.1 T cs ∧ p.2 < cs.size ∧ T ≠ 9 ∧ T ≠ 115) (hnb : n ≤ 1000000) (hmb : m ≤ 1000000) :
    Calls Tryz.prog 85 #[.slice a n c, .slice (some ⟨gp, 0, none⟩) m d] W (ReadN W B ws ps) := by
  by_cases hnm : n = m
  · have HI : Hid ((if ws.length = ps.length then numsI ws else none) = numsI ws) := by show _ = _; rw [if_pos (by omega)]
    have HN := hidden hn
    have HMM := hidden hm
    have HW := hidden hw
    have HSZ := hidden hsz
    have HP := hidden hp
    have HPS := hidden hps
    have HL := hidden hL
    subst hnm
    have HLP : Hid (ps.length = ws.length) := by show _ = _; omega
    unfold ReadN
    rw [HI.out]
    clear hn hm hw hsz hp hps hL HI
    go_enter Tryz.func85, Tryz.ntmps85
    go_wp2_with fail
    go_loopw [16] (fun i wr => ∃ (k : Nat) (vs : List Int), i = .int .i64 k ∧ k ≤ n ∧ Hid (numsI (ws.take k) = some vs) ∧ Hid (∀ b T cs, Has W b T cs → Has wr b T (updN (ps.take k) vs b cs)) ∧ Hid (Below B W wr)) (fun i _ => n - (intOf i).toNat)
    case atStart => exact ⟨0, [], rfl, Nat.zero_le _, (by show _ = _; rfl), (by intro b T cs h; simpa [updN] using h), Below.refl _ _⟩
    case round =>
      obtain ⟨k, vs, rfl, hk, hv, hh, hb⟩ := hrel
      by_cases hlt : k < n
      · have hi : (k : Int) < (n : Int) := by omega
        have hkw : k < ws.length := by have := HN.out; omega
        have hkp : k < ps.length := by have := HLP.out; omega
        obtain ⟨t, ht⟩ : ∃ t, ws[k]? = some t := ⟨_, List.getElem?_eq_getElem hkw⟩
        obtain ⟨⟨pb, po⟩, hpk⟩ : ∃ p, ps[k]? = some p := ⟨_, List.getElem?_eq_getElem hkp⟩
        obtain ⟨g, off, wcs, rfl, hwg, hwc⟩ := HW.out (by omega)
        have hne : ∀ p ∈ ps, p.1 ≠ g := fun p hpm => by
          obtain ⟨-, T, cs, hT, -, hTs, -⟩ := HPS.out p hpm
          exact hT.differ hwg hTs
        have hnp : ∀ p ∈ ps, p.1 ≠ gp := fun p hpm => by
          obtain ⟨-, T, cs, hT, -, -, hTp⟩ := HPS.out p hpm
          exact hT.differ HP.out hTp
        have hwr := hh.out g _ _ hwg
        rw [updN_other (fun p hpm => hne p (List.mem_of_mem_take hpm))] at hwr
        have hgr := hh.out gp _ _ HP.out
        rw [updN_other (fun p hpm => hnp p (List.mem_of_mem_take hpm))] at hgr
        have c0 : wr.cell? ⟨g, off + k, none⟩ = some (.string t) := (hwr.cell _).trans (hwc k t ht)
        have hLr := HL.out.below hb.out hLB
        have HAT := hidden (atoi_any wr hLr t (HSZ.out t (List.mem_of_getElem? ht)))
        have HTK : Hid (ws.take (k + 1) = ws.take k ++ [t]) := by show _ = _; rw [List.take_add_one, ht]; rfl
        have HTD : Hid (ws = ws.take k ++ t :: ws.drop (k + 1)) := by
          show _ = _
          obtain ⟨h1, h2⟩ := List.getElem?_eq_some_iff.1 ht
          rw [← h2, List.getElem_cons_drop, List.take_append_drop]
        have HPK := hidden hpk
        have HGR := hidden hgr
        clear hwr hgr hwg hwc hne hnp ht hpk hkw hLr
        go_wp2_with fail
        refine HAT.out.mono ?_
        rintro e w1 ⟨hb1, ⟨x, hx, hxi, rfl⟩ | ⟨hx, x, ty, u, rfl⟩⟩
        · have HX := hidden hx
          have hmem := List.mem_of_getElem? HPK.out
          obtain ⟨hpB, T, cs, hT, hlt2, -, -⟩ := HPS.out _ hmem
          have hT1 := (hh.out pb T cs hT).below hb1 (hh.out pb T cs hT).lt
          have hps1 : po < (updN (ps.take k) vs pb cs).size := by rw [updN_size]; exact hlt2
          have q0 : w1.cell? ⟨gp, k, none⟩ = some (.pointer (some ⟨pb, po, none⟩)) := by
            rw [(HGR.out.below hb1 HGR.out.lt).cell k]
            simp [HPK.out]
          obtain ⟨q, hq⟩ : ∃ q, (updN (ps.take k) vs pb cs)[po]? = some q := ⟨_, Array.getElem?_eq_getElem hps1⟩
          have q1 : w1.cell? ⟨pb, po, none⟩ = some q := (hT1.cell po).trans hq
          have q2 := hT1.free po
          have HB2 : Hid (Below B W (w1.setCell ⟨pb, po, none⟩ (.int .i64 x))) := (hb.out.trans (hb1.mono (Nat.le_trans hBW hb.out.size))).setCell (p := ⟨pb, po, none⟩) hpB _
          have HV2 : Hid (numsI (ws.take (k + 1)) = some (vs ++ [x])) := by show _ = _; rw [HTK.out]; exact numsI_snoc hv.out HX.out
          have HPT : Hid (ps.take (k + 1) = ps.take k ++ [(pb, po)]) := by show _ = _; rw [List.take_add_one, HPK.out]; rfl
          have HH2 : Hid (∀ b T cs, Has W b T cs → Has (w1.setCell ⟨pb, po, none⟩ (.int .i64 x)) b T (updN (ps.take (k + 1)) (vs ++ [x]) b cs)) := by
            intro b T' cs' hh'
            have hlen : vs.length = (ps.take k).length := by
              rw [numsI_length hv.out, List.length_take, List.length_take, HLP.out]
            rw [HPT.out, updN_snoc hlen]
            have h1 := (hh.out b T' cs' hh').below hb1 (hh.out b T' cs' hh').lt
            split
            · rename_i e
              subst e
              exact h1.put po _
            · rename_i e
              exact h1.away (fun e2 => e e2.symm) _
          have hxl := hxi.1
          have hxr := hxi.2
          clear hx hT hT1 hps1 hq hh hv hb hb1 HGR HTK HTD HPK HAT c0 HX HPT hmem hxi
          go_wp2_with fail
          go_roundw
          case rel => exact ⟨k + 1, _, by go_num, by omega, HV2, HH2, HB2⟩
          case measure => simp [intOf]; omega
        · have HF : Hid (numsI ws = none) := by show _ = _; rw [HTD.out]; exact numsI_bad hv.out hx
          have HB2 := hidden (hb.out.trans (hb1.mono (Nat.le_trans hBW hb.out.size)))
          clear hx hh hv hb hb1 HGR HTK HTD HPK HAT c0
          go_wp2_with fail
          go_ret
          rw [HF.out]
          exact ⟨HB2.out, rfl⟩
      · have hi : ¬ (k : Int) < (n : Int) := by omega
        have hv' := hv.out
        rw [List.take_of_length_le (by have := HN.out; omega)] at hv'
        have hh' := hh.out
        rw [List.take_of_length_le (by have := HLP.out; have := HN.out; omega)] at hh'
        have HV := hidden hv'
        have HH := hidden hh'
        clear hv hh hv' hh'
        go_wp2_with fail
        go_ret
        rw [HV.out]
        exact ⟨hb.out, rfl, HH.out⟩
  · have HI : Hid ((if ws.length = ps.length then numsI ws else none) = none) := by show _ = _; rw [if_neg (by omega)]
    have hne : ¬ (n : Int) = (m : Int) := by omega
    unfold ReadN
    rw [HI.out]
    clear hn hm hw hsz hp hps hL HI hnm
    go_enter Tryz.func85, Tryz.ntmps85
    go_wp2_with fail
    go_ret
    exact ⟨Below.refl _ _, rfl⟩
end Go.Proofs.YtpfombelhajmlaaGreatDoor
namespace Go.Proofs.YtpfombelhajmlaaGreatDoor
open Go.RowKit
def LastOk (top : Nat) (ss : List Sp) : Prop := ∃ lo, lo ≤ top ∧ ∀ ss0 y, ss = ss0 ++ [y] → (∀ g, y.a2 = some g → lo ≤ g.block) ∧ ∀ z ∈ ss0, ∀ g, z.a2 = some g → g.block < lo
theorem LastOk.up {a b : Nat} {ss : List Sp} (h : LastOk a ss) (hab : a ≤ b) : LastOk b ss := by
  obtain ⟨lo, h1, h2⟩ := h
  exact ⟨lo, Nat.le_trans h1 hab, h2⟩
theorem LastOk.nil (a : Nat) : LastOk a [] := ⟨0, Nat.zero_le _, fun ss0 y h => absurd h (by simp)⟩
structure ROL (w2 W : World) (vs vm : Value) (ss : List Sp) (ms : List Sm) : Prop where
  ro : RO w2 W vs vm ss ms
  last : LastOk W.heap.size ss
section
variable {w2 W W' : World} {vs vm : Value} {ss : List Sp} {ms : List Sm}
theorem ROL.only (h : ROL w2 W vs vm ss ms) (hb : Below W.heap.size W W') : ROL w2 W' vs vm ss ms := ⟨h.ro.only hb, h.last.up hb.size⟩
end
theorem own_raise {W : World} {base lo : Nat} {T : TypeId} {size : Nat} {a : Option Addr} {n c : Nat} {xs : List Value} (h : W.ownsRow base T size (.slice a n c) n xs) (hl : ∀ g, a = some g → lo ≤ g.block) : W.ownsRow lo T size (.slice a n c) n xs := by
  refine ⟨h.1, ?_⟩
  rcases h.2 with h0 | ⟨g, cap, cur, e, _, h2⟩
  · exact .inl h0
  · injection e with e1 e2 e3
    exact .inr ⟨g, cap, cur, by rw [e1, e3], hl _ e1, h2⟩
theorem own_at {W : World} {base : Nat} {T : TypeId} {size : Nat} {a : Option Addr} {n c : Nat} {xs : List Value} (h : W.ownsRow base T size (.slice a n c) n xs) (g : Addr) (hg : a = some g) : g = ⟨g.block, 0, none⟩ ∧ base ≤ g.block ∧ g.block < W.heap.size := by
  subst hg
  have h1 := h.lt g.block rfl
  rcases h.2 with ⟨e, _⟩ | ⟨k, cap, cur, e, _⟩
  · injection e with e; cases e
  · injection e with e
    injection e with e
    subst e
    exact ⟨rfl, h1.1, h1.2⟩
theorem flatS_last (ss0 : List Sp) (y : Sp) (v : Value) : (flatS (ss0 ++ [y])).set (ss0.length * 6 + 5) v = flatS ss0 ++ [.string y.s.name, .int .i64 y.s.kind, .int .i64 y.s.align, .slice y.a1 y.s.bytes.length y.c1, .int .i64 y.s.size, v] := by
  rw [flatS_snoc, List.set_append_right _ _ (by rw [flatS_length]; omega), flatS_length]
  rw [show ss0.length * 6 + 5 - ss0.length * 6 = 5 by omega]
  rfl
theorem RO.fixLast {w2 W W' : World} {vs vm : Value} {ss0 : List Sp} {y : Sp} {ms : List Sm} (h : RO w2 W vs vm (ss0 ++ [y]) ms) {lo : Nat} (hlo : ∀ z ∈ ss0, ∀ g, z.a2 = some g → g.block < lo) (hly : ∀ g, y.a2 = some g → lo ≤ g.block)
    {a' : Option Addr} {c' : Nat} {f : Fx} (hg0 : W.grownBy W' (Value.slice y.a2 y.s.fixs.length y.c2).ownBlock) (hlb : w2.heap.size + 1 ≤ lo)
    (hr : W'.ownsRow lo 55 4 (.slice a' (y.s.fixs.length + 1) c') (y.s.fixs.length + 1) (flatF y.s.fixs ++ [.int .i64 f.pl, .int .i64 f.kind, .int .i64 f.to, .int .i64 f.add])) :
    ∃ g cs, vs = .slice (some ⟨g, 0, none⟩) (ss0 ++ [y]).length cs ∧ (∃ cur, Has W g 52 cur ∧ Has W' g 52 cur ∧ cur[ss0.length * 6 + 5]? = some (.slice y.a2 y.s.fixs.length y.c2)) ∧
      RO w2 (W'.setCell ⟨g, ss0.length * 6 + 5, none⟩ (.slice a' (y.s.fixs.length + 1) c')) vs vm (ss0 ++ [⟨⟨y.s.name, y.s.kind, y.s.align, y.s.bytes, y.s.size, y.s.fixs ++ [f]⟩, y.a1, y.c1, a', c'⟩]) ms ∧
      (∀ g, a' = some g → lo ≤ g.block) := by
  have hy : y ∈ ss0 ++ [y] := by simp
  have hfy := h.secs.own2 y hy
  rcases h.secs.row.2 with ⟨-, h0⟩ | ⟨g, cap, cur, e, hgb, hh, hn, hm, hs, ht⟩
  · rw [List.length_append] at h0; simp at h0
  have hhas : Has W g 52 cur := hh
  have hcell : cur[ss0.length * 6 + 5]? = some (.slice y.a2 y.s.fixs.length y.c2) := by
    rw [← Array.getElem?_toList]
    have h5 : (flatS (ss0 ++ [y]))[ss0.length * 6 + 5]? = some (.slice y.a2 y.s.fixs.length y.c2) := by
      rw [flatS_snoc, List.getElem?_append_right (by rw [flatS_length]; omega), flatS_length, show ss0.length * 6 + 5 - ss0.length * 6 = 5 by omega]
      rfl
    rw [← ht, List.getElem?_take, if_pos (by rw [List.length_append, List.length_singleton]; omega)] at h5
    exact h5
  have hhas' : Has W' g 52 cur := hhas.grown hg0 (hhas.other hfy (by decide))
  have hgp : W'.grownBy (W'.setCell ⟨g, ss0.length * 6 + 5, none⟩ (.slice a' (y.s.fixs.length + 1) c')) (some g) := only_put' _ _
  refine ⟨g, cap, by rw [e], ⟨cur, hhas, hhas', hcell⟩, ?_, fun q hq => (own_at hr q hq).2.1⟩
  have hob : Has W' w2.heap.size 26 #[vs, vm] := h.obj.grown hg0 (h.obj.other hfy (by decide))
  have hne : w2.heap.size ≠ g := by omega
  have hbl : Below w2.heap.size w2 W' := h.below.grown hg0 h.below.size (fun q hq => by have := (hfy.lt q hq).1; omega)
  have hput := hhas'.put (ss0.length * 6 + 5) (Value.slice a' (y.s.fixs.length + 1) c')
  have hi5 : ss0.length * 6 + 5 < cur.size := (Array.getElem?_eq_some_iff.1 hcell).1
  have hr0 : W'.ownsRow (w2.heap.size + 1) 55 4 (.slice a' (y.s.fixs.length + 1) c') (y.s.fixs.length + 1) (flatF y.s.fixs ++ [.int .i64 f.pl, .int .i64 f.kind, .int .i64 f.to, .int .i64 f.add]) := row_lower hr hlb
  have hall : ∀ z ∈ ss0 ++ [⟨⟨y.s.name, y.s.kind, y.s.align, y.s.bytes, y.s.size, y.s.fixs ++ [f]⟩, y.a1, y.c1, a', c'⟩], z ∈ ss0 ∨ z = ⟨⟨y.s.name, y.s.kind, y.s.align, y.s.bytes, y.s.size, y.s.fixs ++ [f]⟩, y.a1, y.c1, a', c'⟩ := fun z hz => by
    rcases List.mem_append.1 hz with h1 | h1
    · exact .inl h1
    · exact .inr (List.mem_singleton.1 h1)
  refine ⟨hbl.grown hgp hbl.size (by intro q hq; injection hq with hq; omega), hob.away hne _, ⟨?_, fun z hz => ?_, fun z hz => ?_, fun z hz => ?_, ?_⟩, ?_⟩
  · refine ⟨by rw [flatS_length], .inr ⟨g, cap, _, ?_, hgb, hput, ?_, hm, ?_, ?_⟩⟩
    · rw [e]; simp
    · rw [List.length_append, List.length_singleton] at hn ⊢; exact hn
    · rw [Array.size_setIfInBounds]; exact hs
    · rw [Array.toList_setIfInBounds, List.take_set, show (ss0 ++ [(⟨⟨y.s.name, y.s.kind, y.s.align, y.s.bytes, y.s.size, y.s.fixs ++ [f]⟩, y.a1, y.c1, a', c'⟩ : Sp)]).length = (ss0 ++ [y]).length by simp, ht, flatS_last, flatS_snoc]
      simp
  · rcases hall z hz with h1 | rfl
    · exact h.secs.wf z (by simp [h1])
    · exact h.secs.wf y hy
  · have k : ∀ u ∈ ss0 ++ [y], (W'.setCell ⟨g, ss0.length * 6 + 5, none⟩ (.slice a' (y.s.fixs.length + 1) c')).ownsRow (w2.heap.size + 1) 5 1 (.slice u.a1 u.s.bytes.length u.c1) u.s.bytes.length (u.s.bytes.map (Value.int .u8)) := fun u hu => by
      have h1 := (h.secs.own1 u hu).kept hg0 (rows_apart (h.secs.own1 u hu) hfy (by decide))
      exact h1.kept hgp (row_apart h1 hhas' (by decide))
    rcases hall z hz with h1 | rfl
    · exact k z (by simp [h1])
    · exact k y hy
  · rcases hall z hz with h1 | rfl
    · have h2 := h.secs.own2 z (by simp [h1])
      have h3 := h2.kept hg0 (by
        rcases hza : z.a2 with _ | q
        · exact .inl (by simp [Value.ownBlock])
        · refine .inr fun e2 => ?_
          have hq := hlo z h1 q hza
          rcases hya : y.a2 with _ | r
          · rw [hya] at e2; simp [Value.ownBlock] at e2
          · have hrr := hly r hya
            rw [hya] at e2
            simp only [Value.ownBlock, Option.some.injEq] at e2
            omega)
      exact h3.kept hgp (row_apart h3 hhas' (by decide))
    · have h3 := hr0.kept hgp (row_apart hr0 hhas' (by decide))
      show World.ownsRow _ _ _ _ _ _ _
      rw [flatF_snoc, List.length_append]
      exact h3
  · have hp := h.secs.apart
    rw [List.pairwise_append] at hp ⊢
    refine ⟨hp.1, List.pairwise_singleton _ _, fun z hz u hu => ?_⟩
    rw [List.mem_singleton.1 hu]
    refine ⟨(hp.2.2 z hz y (by simp)).1, ?_⟩
    rcases hza : z.a2 with _ | q
    · exact .inl rfl
    · refine .inr fun e2 => ?_
      have hq := hlo z hz q hza
      have := (own_at hr q e2.symm).2.1
      omega
  · have h1 : W'.ownsRow (w2.heap.size + 1) 58 4 vm ms.length (flatM ms) := h.syms.kept hg0 (rows_apart h.syms hfy (by decide))
    exact h1.kept hgp (row_apart h1 hhas' (by decide))
end Go.Proofs.YtpfombelhajmlaaGreatDoor
namespace Go.Proofs.YtpfombelhajmlaaGreatDoor
open Go.RowKit
structure RdSt (w2 W : World) (vs vm : Value) (ss : List Sp) (ms : List Sm) (k : Nat) : Prop where
  rol : ROL w2 W vs vm ss ms
  ns : ss.length ≤ k
  nm : ms.length ≤ k
  nf : ∀ y ∈ ss, y.s.fixs.length ≤ k
  fs : ∀ y ∈ ss, y.s.fits
  fm : ∀ m ∈ ms, m.fits
theorem RdSt.only {w2 W W' : World} {vs vm : Value} {ss : List Sp} {ms : List Sm} {k : Nat} (h : RdSt w2 W vs vm ss ms k) (hb : Below W.heap.size W W') : RdSt w2 W' vs vm ss ms k := ⟨h.rol.only hb, h.ns, h.nm, h.nf, h.fs, h.fm⟩
theorem RdSt.more {w2 W : World} {vs vm : Value} {ss : List Sp} {ms : List Sm} {k j : Nat} (h : RdSt w2 W vs vm ss ms k) (hj : k ≤ j) : RdSt w2 W vs vm ss ms j := ⟨h.rol, Nat.le_trans h.ns hj, Nat.le_trans h.nm hj, fun y hy => Nat.le_trans (h.nf y hy) hj, h.fs, h.fm⟩
def StepA (w2 : World) (k : Nat) (r : Option (List Sx × List Sm)) (e : Ending) (w' : World) : Prop :=
  match r with
  | some o => e = .returned (.bool true) ∧ ∃ vs vm ss ms, RdSt w2 w' vs vm ss ms k ∧ ss.map Sp.s = o.1 ∧ ms = o.2
  | none => e = .returned (.bool false)
def StepN (w2 : World) (k : Nat) (r : Option (List Sx × List Sm)) (e : Ending) (w' : World) : Prop := Below w2.heap.size w2 w' ∧ StepA w2 k r e w'
theorem numI_i64 {t : ByteArray} {n : Int} (h : numI t = some n) : I64 n := by
  unfold numI at h
  split at h
  · rename_i v hv
    injection h with h
    subst h
    exact Lib.atoiAll_bounds hv
  · cases h
theorem numsI_i64 : ∀ {a : List ByteArray} {vs : List Int}, numsI a = some vs → ∀ v ∈ vs, I64 v
  | [], vs, h => by injection h with h; subst h; intro v hv; cases hv
  | x :: r, vs, h => by
    rw [numsI] at h
    obtain ⟨m, hm, h2⟩ := Option.bind_eq_some_iff.1 h
    obtain ⟨us, hu, rfl⟩ := Option.map_eq_some_iff.1 h2
    intro v hv
    rcases List.mem_cons.1 hv with rfl | hv
    · exact numI_i64 hm
    · exact numsI_i64 hu v hv
theorem numsI3 {a : List ByteArray} {vs : List Int} (h : numsI a = some vs) (h3 : a.length = 3) : ∃ x y z, vs = [x, y, z] ∧ I64 x ∧ I64 y ∧ I64 z := by
  have hl := numsI_length h
  have hi := numsI_i64 h
  rw [h3] at hl
  match vs, hl with
  | [x, y, z], _ => exact ⟨x, y, z, rfl, hi x (by simp), hi y (by simp), hi z (by simp)⟩
theorem numsI4 {a : List ByteArray} {vs : List Int} (h : numsI a = some vs) (h3 : a.length = 4) : ∃ x y z u, vs = [x, y, z, u] ∧ I64 x ∧ I64 y ∧ I64 z ∧ I64 u := by
  have hl := numsI_length h
  have hi := numsI_i64 h
  rw [h3] at hl
  match vs, hl with
  | [x, y, z, u], _ => exact ⟨x, y, z, u, rfl, hi x (by simp), hi y (by simp), hi z (by simp), hi u (by simp)⟩
theorem RdSt.addM {w2 W : World} {vs vm : Value} {ss : List Sp} {ms : List Sm} {k : Nat} {m : Sm} {W0 : World} {v0 : Value} (h : RdSt w2 W0 vs v0 ss ms k) (hm : m.fits) (hs : W0.heap.size ≤ W.heap.size) (hr : RO w2 W vs vm ss (ms ++ [m])) : RdSt w2 W vs vm ss (ms ++ [m]) (k + 1) :=
  ⟨⟨hr, h.rol.last.up hs⟩, by have := h.ns; omega, by rw [List.length_append, List.length_singleton]; have := h.nm; omega, fun y hy => by have := h.nf y hy; omega, h.fs, fun x hx => by
    rcases List.mem_append.1 hx with h1 | h1
    · exact h.fm x h1
    · rw [List.mem_singleton.1 h1]; exact hm⟩
structure JM2 (w2 : World) (h3 yb : Nat) (vs vm : Value) (ss : List Sp) (ms : List Sm) (m : Sm) (k : Nat) (W : World) (vals : Nat → Value) : Prop where
  j : JY w2 vs vm ss ms m k W vals
  high : h3 ≤ W.heap.size
  has : k = 0 → Has W yb 58 #[.string m.name, .int .i64 m.bind, .int .i64 m.loc, .int .i64 m.value]
theorem symI_none {ws : List ByteArray} (h : (if (ws.drop 1).length = 3 then numsI (ws.drop 1) else none) = none) : symI ws = none := by
  unfold symI
  split
  · rename_i h4
    rw [if_pos (by rw [List.length_drop]; omega)] at h
    rw [h]
  · rfl
theorem symI_some {ws : List ByteArray} {vs : List Int} (h : (if (ws.drop 1).length = 3 then numsI (ws.drop 1) else none) = some vs) : ∃ a b c, vs = [a, b, c] ∧ I64 a ∧ I64 b ∧ I64 c ∧ symI ws = some ⟨ws.getD 0 ⟨#[]⟩, a, b, c⟩ := by
  split at h
  · rename_i h3
    obtain ⟨a, b, c, rfl, i1, i2, i3⟩ := numsI3 h h3
    refine ⟨a, b, c, rfl, i1, i2, i3, ?_⟩
    unfold symI
    rw [if_pos (by rw [List.length_drop] at h3; omega), h]
  · cases h
set_option maxRecDepth 100000 in
set_option maxHeartbeats 4000000 in
theorem readSymbolWords_any (w2 W : World) (hL : Libs W) (hl2 : libTop ≤ w2.heap.size) (vs vm : Value) (ss : List Sp) (ms : List Sm) (k : Nat) (h : RdSt w2 W vs vm ss ms k) (hk : k ≤ 2000000) (a : Option Addr) (n c : Nat) (ws : List ByteArray) (hn : n = ws.length) (hnc : n ≤ c) (hcm : c ≤ 1000) (hw : WordsAt W a ws) (hsz : ∀ s ∈ ws, s.size ≤ 1048576) :
    Calls Tryz.prog 66 #[.pointer (some ⟨w2.heap.size, 0, none⟩), .slice a n c] W (StepN w2 (k + 1) ((symI ws).map fun m => (ss.map Sp.s, ms ++ [m]))) := by
  by_cases hn0 : n = 0
  · have hnil : symI ws = none := by unfold symI; rw [if_neg (by omega)]
    have HB := hidden h.rol.ro.below
    subst hn0
    rw [hnil]
    clear h hw hL hn hsz hnil
    go_enter Tryz.func66, Tryz.ntmps66
    go_wp2_with fail
    go_ret
    exact ⟨HB.out, rfl⟩
  obtain ⟨g, off, wcs, rfl, hwg, hwc⟩ := hw (by omega)
  obtain ⟨nm, hnm⟩ : ∃ t, ws[0]? = some t := ⟨_, List.getElem?_eq_getElem (by omega)⟩
  have hnm0 : ws.getD 0 ⟨#[]⟩ = nm := by rw [List.getD_eq_getElem?_getD, hnm]; rfl
  have hnms : nm.size ≤ 1048576 := hsz nm (List.mem_of_getElem? hnm)
  have c0 : W.cell? ⟨g, off, none⟩ = some (.string nm) := by have := (hwg.cell (off + 0)).trans (hwc 0 nm hnm); rwa [Nat.add_zero] at this
  have hni : ¬ (n : Int) = 0 := by omega
  obtain ⟨X, hX⟩ : ∃ q, W.alloc (.cells #[.string nm, .int .i64 0, .int .i64 0, .int .i64 0] 58) = q := ⟨_, rfl⟩
  obtain ⟨yb, hyb⟩ : ∃ q, W.heap.size = q := ⟨_, rfl⟩
  have hbX : Below W.heap.size W X := by rw [← hX]; exact (Below.refl _ _).alloc (Nat.le_refl _) _
  have hxs : Has X yb 58 #[.string nm, .int .i64 0, .int .i64 0, .int .i64 0] := by rw [← hX, ← hyb]; exact Has.new _ _ _
  obtain ⟨Y, hY⟩ : ∃ q, X.alloc (.cells #[.pointer (some ⟨yb, 1, none⟩), .pointer (some ⟨yb, 2, none⟩), .pointer (some ⟨yb, 3, none⟩)] 115) = q := ⟨_, rfl⟩
  obtain ⟨pb, hpb⟩ : ∃ q, X.heap.size = q := ⟨_, rfl⟩
  have hbY : Below X.heap.size X Y := by rw [← hY]; exact (Below.refl _ _).alloc (Nat.le_refl _) _
  have hbWY : Below W.heap.size W Y := hbX.trans (hbY.mono hbX.size)
  have hps : Has Y pb 115 #[.pointer (some ⟨yb, 1, none⟩), .pointer (some ⟨yb, 2, none⟩), .pointer (some ⟨yb, 3, none⟩)] := by rw [← hY, ← hpb]; exact Has.new _ _ _
  have hxy : Has Y yb 58 #[.string nm, .int .i64 0, .int .i64 0, .int .i64 0] := hxs.below hbY hxs.lt
  obtain ⟨a2, ha2⟩ : ∃ q : Option Addr, (if c = 1 then some (⟨g, off, none⟩ : Addr) else (some (⟨g, off, none⟩ : Addr)).map (·.add (1 * 1))) = q := ⟨_, rfl⟩
  have hwd : WordsAt Y a2 (ws.drop 1) := by rw [← ha2]; exact (hw.drop (k := 1) (cap := c) (by omega)).below hbWY (Nat.le_refl _)
  have hyW : W.heap.size ≤ yb := by omega
  have hyWY : yb ≤ Y.heap.size := Nat.le_of_lt hxy.lt
  have hl2W : w2.heap.size ≤ W.heap.size := Nat.le_of_lt h.rol.ro.obj.lt
  have hRN := hidden (readNumbers_any Y (hL.below hbWY hL.lt) yb (by omega) hyWY a2 (n - 1) (c - 1) (ws.drop 1) (by rw [List.length_drop]; omega) hwd (fun s hs => by have := hsz s (List.mem_of_mem_drop hs); omega) pb 3 3 [(yb, 1), (yb, 2), (yb, 3)] rfl hps (by
    intro p hp
    have hc : p = (yb, 1) ∨ p = (yb, 2) ∨ p = (yb, 3) := by simpa using hp
    rcases hc with rfl | rfl | rfl
    · exact ⟨Nat.le_refl _, _, _, hxy, by show 1 < 4; decide, by decide, by decide⟩
    · exact ⟨Nat.le_refl _, _, _, hxy, by show 2 < 4; decide, by decide, by decide⟩
    · exact ⟨Nat.le_refl _, _, _, hxy, by show 3 < 4; decide, by decide, by decide⟩) (by omega) (by omega))
  have ht : Tryz.prog.underlying 28 = some (.slice (Tryz.prog.elem 28)) := by kernel_rfl
  have hs1 : ∀ W' : World, (Instr.slice 28 (.slice (some ⟨g, off, none⟩) n c) (some (.int .i64 1)) none none).run Tryz.prog W' = .ok (.slice a2 (n - 1) (c - 1)) W' := fun W' => by
    have hz : (sizeOf (Tryz.prog.elem 28)).run Tryz.prog W' = .ok 1 W' := by kernel_rfl
    have := run_slice_l W' 28 (some (⟨g, off, none⟩ : Addr)) n c ht .i64 1 (by omega) (by omega)
    rw [this, hz]
    simp only [Result.andThen, sliced]
    rw [← ha2]
    rfl
  have HS := hidden h
  have HXY := hidden hxy
  have HBWY := hidden hbWY
  have HNM := hidden hnm0
  have HXS := hidden hxs
  have HXE := hidden hX
  clear h hw hL hn hwg hwc hnm hbX hbY hbWY hps hxy hwd hnm0 hxs ha2 ht hsz hX
  go_enter Tryz.func66, Tryz.ntmps66
  go_upto_region 4 with fail
  try rw [HXE.out]
  try rw [hyb]
  clear hyb c0 HXE
  go_wp2_with fail
  refine hRN.out.mono ?_
  rintro e w3 ⟨hb3, hr⟩
  have HB3 : Hid (Below W.heap.size W w3) := HBWY.out.trans (hb3.mono hyW)
  have HS3 := hidden (HS.out.only HB3.out)
  cases hq : (if (ws.drop 1).length = [(yb, 1), (yb, 2), (yb, 3)].length then numsI (ws.drop 1) else none) with
  | none =>
    rw [hq] at hr
    have HF := hidden (symI_none hq)
    have hr' : e = .returned (.bool false) := hr
    subst hr'
    have HBF := hidden HS3.out.rol.ro.below
    clear hr hq hb3 hRN
    go_wp2_with fail
    go_ret
    rw [HF.out]
    exact ⟨HBF.out, rfl⟩
  | some us =>
    rw [hq] at hr
    obtain ⟨x, y, z, rfl, i1, i2, i3, hsym⟩ := symI_some hq
    obtain ⟨rfl, hall⟩ := hr
    rw [HNM.out] at hsym
    have hcells : Has w3 yb 58 #[.string nm, .int .i64 x, .int .i64 y, .int .i64 z] := by
      have := hall yb _ _ HXY.out
      have hu : updN [(yb, 1), (yb, 2), (yb, 3)] [x, y, z] yb #[.string nm, .int .i64 0, .int .i64 0, .int .i64 0] = #[.string nm, .int .i64 x, .int .i64 y, .int .i64 z] := by
        unfold updN
        simp
      rwa [hu] at this
    have HSYM := hidden hsym
    obtain ⟨ml, hml⟩ : ∃ q, ms.length = q := ⟨_, rfl⟩
    obtain ⟨av, cv, hvm⟩ := own_shape HS3.out.rol.ro.syms
    rw [hml] at hvm
    have HML := hidden hml
    subst hvm
    have hml2 : ml ≤ 2000000 := by rw [← hml]; have := HS3.out.nm; omega
    obtain ⟨i1', hi1, hy0, hy1, hy2⟩ := info_parts Tryz.info_symbol
    have hdr : Below w3.heap.size w3 w3.drew := ⟨rfl, rfl, rfl, Nat.le_refl _, fun _ _ => rfl⟩
    have hJ0 : Hid (JM2 w2 w3.heap.size yb vs (.slice av ml cv) ss ms ⟨nm, x, y, z⟩ 0 w3.drew fun _ => undef) := ⟨HS3.out.rol.ro.drew, Nat.le_refl _, fun _ => hcells⟩
    have hmf : Hid (Sm.fits ⟨nm, x, y, z⟩) := ⟨by show nm.size ≤ maxLen; unfold maxLen; omega, i1, i2, i3⟩
    obtain ⟨ob, hob⟩ : ∃ q, w2.heap.size = q := ⟨_, rfl⟩
    have HOB := hidden hob
    rw [hob]
    clear hq hsym hall hb3 hRN i1 i2 i3 hcells hdr hml
    clear hob
    go_upto_region 6 with fail
    refine wp_region_chain (m := 3) (js := [.quiet (.pointer (some ⟨ob, 0, none⟩)) 3, .quiet (.pointer (some ⟨ob, 0, none⟩)) 3, .quiet (.pointer (some ⟨ob, 0, none⟩)) 3, .quiet (.pointer (some ⟨ob, 1, none⟩)) 3, .quiet (.slice av ml cv) 1, .quiet (.agg #[.string nm, .int .i64 x, .int .i64 y, .int .i64 z]) 0, .chain 0, .chain 1, .quiet (.pointer (some ⟨ob, 0, none⟩)) 3, .quiet (.pointer (some ⟨ob, 1, none⟩)) 3, .chain 2]) (by kernel_rfl) (JM2 w2 w3.heap.size yb vs (.slice av ml cv) ss ms ⟨nm, x, y, z⟩) (by kernel_rfl) (by kernel_rfl) ⟨_, hJ0.out⟩ (fun vals => ?_) ?_
    · show SeqW _ _ _ _ _ _ _
      iterate 4
        refine ⟨fun kk hkk W hW => ?_, ?_⟩
        · unfold Oper.wp
          simp [go_sem]
          try exact ⟨_, rfl, rfl⟩
        simp only [Act.put, List.setIfInBounds_toArray, List.set_cons_succ, List.set_cons_zero]
      refine ⟨fun kk hkk W hW => ?_, ?_⟩
      · have q : W.cell? ⟨ob, 1, none⟩ = some (.slice av ml cv) := by rw [← HOB.out]; exact (JY.obj hW.j hkk).cell 1
        unfold Oper.wp
        simp [go_sem, q]
        try exact ⟨_, rfl, rfl⟩
      simp only [Act.put, List.setIfInBounds_toArray, List.set_cons_succ, List.set_cons_zero]
      refine ⟨fun kk hkk W hW => ?_, ?_⟩
      · have hh := hW.has (by omega)
        have q0 : W.cell? ⟨yb, 0, none⟩ = some (.string nm) := hh.cell 0
        have q1 : W.cell? ⟨yb, 1, none⟩ = some (.int .i64 x) := hh.cell 1
        have q2 : W.cell? ⟨yb, 2, none⟩ = some (.int .i64 y) := hh.cell 2
        have q3 : W.cell? ⟨yb, 3, none⟩ = some (.int .i64 z) := hh.cell 3
        unfold Oper.wp
        simp [go_sem, q0, q1, q2, q3]
        try exact ⟨_, rfl, rfl⟩
      simp only [Act.put, List.setIfInBounds_toArray, List.set_cons_succ, List.set_cons_zero]
      refine ⟨fun W hW => ?_, ?_⟩
      · have hW0 : RO w2 W vs (.slice av ml cv) ss ms := hW.j
        have hN : JM2 w2 w3.heap.size yb vs (.slice av ml cv) ss ms ⟨nm, x, y, z⟩ 1 (W.alloc (.cells #[.string nm, .int .i64 x, .int .i64 y, .int .i64 z] 58)) (upd vals 0 (.slice (some ⟨W.heap.size, 0, none⟩) 1 1)) := ⟨⟨hW0.alloc _, W.heap.size, rfl, Has.new _ _ _⟩, Nat.le_trans hW.high (by simp), fun h => absurd h (by decide)⟩
        unfold Oper.wp
        simp [go_sem]
        first | exact hN | exact ⟨_, rfl, hN⟩
      simp only [Act.put, List.setIfInBounds_toArray, List.set_cons_succ, List.set_cons_zero]
      refine ⟨fun W hW => ?_, ?_⟩
      · obtain ⟨hW1, hb, hv, hh⟩ := hW.j
        have hsy := hW1.syms
        rw [HML.out] at hsy
        refine wp_append_own W _ _ _ rfl (w2.heap.size + 1) 58 i1' (.agg #[.string ⟨#[]⟩, .int .i64 0, .int .i64 0, .int .i64 0]) 4 40 Tryz.underlying24 hi1 hy0 hy1 hy2 rfl (by decide) _ _ _ rfl hsy ⟨hb, 0, none⟩ 1 1 [.string nm, .int .i64 x, .int .i64 y, .int .i64 z] hv ?_ ?_ ?_ ?_ ?_ ?_ ?_
        · rfl
        · intro t u ht
          rw [addr_row, hh.cell t]
          simpa using ht
        · intro u hu
          simp at hu
          rcases hu with rfl | rfl | rfl | rfl <;> rfl
        · unfold maxLen; omega
        · omega
        · exact hW1.obj.lt
        · intro v' w' h2 h3 _
          obtain ⟨b2, d2, rfl⟩ := own_shape h2
          have h2' : w'.ownsRow (w2.heap.size + 1) 58 4 (.slice b2 (ml + 1) d2) (ms.length + 1) (flatM ms ++ [.string nm, .int .i64 x, .int .i64 y, .int .i64 z]) := by rw [HML.out]; exact h2
          obtain ⟨q1, q2⟩ := hW1.appM (m := ⟨nm, x, y, z⟩) h3 h2'
          have hj : JY w2 vs (.slice av ml cv) ss ms ⟨nm, x, y, z⟩ 2 w' (upd vals 1 (.slice b2 (ml + 1) d2)) := ⟨b2, d2, by rw [HML.out]; rfl, hW1.below.grown h3 hW1.below.size (fun q hq => by have := (hsy.lt q hq).1; omega), q1, by rw [HML.out]; exact q2⟩
          exact ⟨_, rfl, ⟨hj, Nat.le_trans hW.high h3.size, fun h => absurd h (by decide)⟩⟩
      simp only [Act.put, List.setIfInBounds_toArray, List.set_cons_succ, List.set_cons_zero]
      iterate 2
        refine ⟨fun kk hkk W hW => ?_, ?_⟩
        · unfold Oper.wp
          simp [go_sem]
          try exact ⟨_, rfl, rfl⟩
        simp only [Act.put, List.setIfInBounds_toArray, List.set_cons_succ, List.set_cons_zero]
      refine ⟨fun W hW => ?_, trivial⟩
      have htop := hW.high
      obtain ⟨b2, d2, hv2, hbl2, q1, q2⟩ := hW.j
      rw [HML.out] at hv2 q2
      rw [hv2]
      have ck : W.cell? ⟨ob, 1, none⟩ = some (.slice av ml cv) := by rw [← HOB.out]; exact q1.cell 1
      have fk : W.frozen? ⟨ob, 1, none⟩ = false := by rw [← HOB.out]; exact q1.free 1
      rw [HOB.out] at q2
      have hN : ∀ u, JM2 w2 w3.heap.size yb vs (.slice av ml cv) ss ms ⟨nm, x, y, z⟩ 3 (W.setCell ⟨ob, 1, none⟩ (.slice b2 (ml + 1) d2)) (upd vals 2 u) := fun u => ⟨⟨b2, d2, by rw [HML.out]; exact q2⟩, Nat.le_trans htop (by simp), fun h => absurd h (by decide)⟩
      clear q1 q2 hW
      unfold Oper.wp
      simp [go_sem, ck, fk]
      first | exact hN _ | exact ⟨undef, hN _⟩ | exact ⟨_, rfl, hN _⟩
    · intro W5 vals hJ
      obtain ⟨b2, d2, hrs3⟩ := hJ.j
      have HF : Hid (StepN w2 (k + 1) (some (ss.map Sp.s, ms ++ [(⟨nm, x, y, z⟩ : Sm)])) (.returned (.bool true)) W5) := ⟨hrs3.below, rfl, _, _, _, _, HS3.out.addM hmf.out hJ.high hrs3, rfl, rfl⟩
      simp only [putAll, List.map_cons, List.map_nil, Job.val, Act.put, List.setIfInBounds_toArray, List.set_cons_succ, List.set_cons_zero]
      clear hrs3 hJ hJ0
      go_wp2_with fail
      go_ret
      rw [HSYM.out]
      exact HF.out
end Go.Proofs.YtpfombelhajmlaaGreatDoor
namespace Go.Proofs.YtpfombelhajmlaaGreatDoor
open Go.RowKit
theorem fixI_none {ws : List ByteArray} (h : (if ws.length = 4 then numsI ws else none) = none) : fixI ws = none := by
  unfold fixI
  split
  · rename_i h4
    rw [if_pos h4] at h
    rw [h]
  · rfl
theorem fixI_some {ws : List ByteArray} {vs : List Int} (h : (if ws.length = 4 then numsI ws else none) = some vs) : ∃ a b c d, vs = [a, b, c, d] ∧ (I64 a ∧ I64 b ∧ I64 c ∧ I64 d) ∧ fixI ws = some ⟨a, b, c, d⟩ := by
  split at h
  · rename_i h3
    obtain ⟨a, b, c, d, rfl, i1, i2, i3, i4⟩ := numsI4 h h3
    refine ⟨a, b, c, d, rfl, ⟨i1, i2, i3, i4⟩, ?_⟩
    unfold fixI
    rw [if_pos h3, h]
  · cases h
def plusF (y : Sp) (f : Fx) (a : Option Addr) (c : Nat) : Sp := ⟨⟨y.s.name, y.s.kind, y.s.align, y.s.bytes, y.s.size, y.s.fixs ++ [f]⟩, y.a1, y.c1, a, c⟩
structure JF (w2 : World) (h3 fb sg : Nat) (vs vm : Value) (ss0 : List Sp) (y : Sp) (nf : Nat) (ms : List Sm) (f : Fx) (lo : Nat) (k : Nat) (W : World) (vals : Nat → Value) : Prop where
  high : h3 ≤ W.heap.size
  has : k = 0 → Has W fb 55 #[.int .i64 f.pl, .int .i64 f.kind, .int .i64 f.to, .int .i64 f.add]
  ro : k ≤ 1 → RO w2 W vs vm (ss0 ++ [y]) ms
  arr : k = 1 → ∃ q, vals 0 = .slice (some ⟨q, 0, none⟩) 1 1 ∧ Has W q 55 #[.int .i64 f.pl, .int .i64 f.kind, .int .i64 f.to, .int .i64 f.add]
  app : k = 2 → ∃ a c cur, vals 1 = .slice a (nf + 1) c ∧ Has W sg 52 cur ∧ cur[ss0.length * 6 + 5]? = some (.slice y.a2 nf y.c2) ∧ RO w2 (W.setCell ⟨sg, ss0.length * 6 + 5, none⟩ (.slice a (nf + 1) c)) vs vm (ss0 ++ [plusF y f a c]) ms ∧ ∀ g, a = some g → lo ≤ g.block
  fin : k = 3 → ∃ a c, RO w2 W vs vm (ss0 ++ [plusF y f a c]) ms ∧ ∀ g, a = some g → lo ≤ g.block
theorem RO.secsAt {w2 W : World} {vs vm : Value} {ss0 : List Sp} {y : Sp} {ms : List Sm} (h : RO w2 W vs vm (ss0 ++ [y]) ms) : ∃ sg cs cur, vs = .slice (some ⟨sg, 0, none⟩) (ss0.length + 1) cs ∧ Has W sg 52 cur ∧ cur[ss0.length * 6 + 5]? = some (.slice y.a2 y.s.fixs.length y.c2) := by
  rcases h.secs.row.2 with ⟨-, h0⟩ | ⟨g, cap, cur, e, hgb, hh, hn, hm, hs, ht⟩
  · rw [List.length_append] at h0; simp at h0
  · refine ⟨g, cap, cur, by rw [e, List.length_append, List.length_singleton], hh, ?_⟩
    rw [← Array.getElem?_toList]
    have h5 : (flatS (ss0 ++ [y]))[ss0.length * 6 + 5]? = some (.slice y.a2 y.s.fixs.length y.c2) := by
      rw [flatS_snoc, List.getElem?_append_right (by rw [flatS_length]; omega), flatS_length, show ss0.length * 6 + 5 - ss0.length * 6 = 5 by omega]
      rfl
    rw [← ht, List.getElem?_take, if_pos (by rw [List.length_append, List.length_singleton]; omega)] at h5
    exact h5
theorem RdSt.addF {w2 W W0 : World} {vs vm v0 : Value} {ss0 : List Sp} {y : Sp} {ms : List Sm} {k : Nat} {f : Fx} {a : Option Addr} {c lo : Nat} (h : RdSt w2 W0 v0 vm (ss0 ++ [y]) ms k) (hk : k ≤ 2000000) (hf : I64 f.pl ∧ I64 f.kind ∧ I64 f.to ∧ I64 f.add) (hlo : lo ≤ W.heap.size) (hz : ∀ z ∈ ss0, ∀ g, z.a2 = some g → g.block < lo) (ha : ∀ g, a = some g → lo ≤ g.block) (hr : RO w2 W vs vm (ss0 ++ [plusF y f a c]) ms) : RdSt w2 W vs vm (ss0 ++ [plusF y f a c]) ms (k + 1) := by
  have hy := h.fs y (by simp)
  have hyl := h.nf y (by simp)
  refine ⟨⟨hr, lo, hlo, fun s0 u e => ?_⟩, ?_, by have := h.nm; omega, fun u hu => ?_, fun u hu => ?_, h.fm⟩
  · obtain ⟨e1, e2⟩ := List.append_inj' e rfl
    have e3 : plusF y f a c = u := by simpa using e2
    subst e1
    subst e3
    exact ⟨ha, hz⟩
  · have := h.ns
    simp only [List.length_append, List.length_singleton] at this ⊢
    omega
  · rcases List.mem_append.1 hu with h1 | h1
    · have := h.nf u (by simp [h1]); omega
    · rw [List.mem_singleton.1 h1]
      show (y.s.fixs ++ [f]).length ≤ _
      rw [List.length_append, List.length_singleton]; omega
  · rcases List.mem_append.1 hu with h1 | h1
    · exact h.fs u (by simp [h1])
    · rw [List.mem_singleton.1 h1]
      refine ⟨hy.name, hy.kind, hy.align, hy.size, hy.bytes, ?_, fun g hg => ?_⟩
      · show (y.s.fixs ++ [f]).length ≤ _
        rw [List.length_append, List.length_singleton]; omega
      · rcases List.mem_append.1 hg with h2 | h2
        · exact hy.fixs g h2
        · rw [List.mem_singleton.1 h2]; exact hf
set_option maxRecDepth 100000 in
set_option maxHeartbeats 4000000 in
theorem readFixupWords_any (w2 W : World) (hL : Libs W) (hl2 : libTop ≤ w2.heap.size) (vs vm : Value) (ss : List Sp) (ms : List Sm) (k : Nat) (h : RdSt w2 W vs vm ss ms k) (hk : k ≤ 2000000) (a : Option Addr) (n c : Nat) (ws : List ByteArray) (hn : n = ws.length) (hcm : n ≤ 1000) (hw : WordsAt W a ws) (hsz : ∀ s ∈ ws, s.size ≤ 1048576)
    (r : Option (List Sx × List Sm)) (hr : (if ss.map Sp.s = [] then none else (fixI ws).map fun f => ((ss.map Sp.s).dropLast ++ ((ss.map Sp.s).getLast?.toList.map fun x => { x with fixs := x.fixs ++ [f] }), ms)) = r) :
    Calls Tryz.prog 65 #[.pointer (some ⟨w2.heap.size, 0, none⟩), .slice a n c] W (StepN w2 (k + 1) r) := by
  have HXE : Hid (∃ X, W.alloc (.cells #[.int .i64 0, .int .i64 0, .int .i64 0, .int .i64 0] 55) = X) := ⟨_, rfl⟩
  obtain ⟨X, hX⟩ := HXE.out
  obtain ⟨fb, hfb⟩ : ∃ q, W.heap.size = q := ⟨_, rfl⟩
  have hbX : Below W.heap.size W X := by rw [← hX]; exact (Below.refl _ _).alloc (Nat.le_refl _) _
  have hxs : Has X fb 55 #[.int .i64 0, .int .i64 0, .int .i64 0, .int .i64 0] := by rw [← hX, ← hfb]; exact Has.new _ _ _
  have hX0 := h.only hbX
  obtain ⟨ob, hob⟩ : ∃ q, w2.heap.size = q := ⟨_, rfl⟩
  rcases List.eq_nil_or_concat ss with rfl | ⟨ss0, y, hss⟩
  · have HR : Hid (r = none) := by show _ = _; rw [← hr]; rfl
    obtain ⟨av, cv, hvs⟩ := own_shape hX0.rol.ro.secs.row
    subst hvs
    have x0 : X.cell? ⟨ob, 0, none⟩ = some (.slice av 0 cv) := by rw [← hob]; exact hX0.rol.ro.obj.cell 0
    have HB := hidden hX0.rol.ro.below
    rw [hob]
    clear h hw hL hn hsz hr hX0 hxs hbX hob HXE
    go_enter Tryz.func65, Tryz.ntmps65
    go_wp2_with fail
    go_ret
    rw [HR.out]
    exact ⟨HB.out, rfl⟩
  subst hss
  rw [List.concat_eq_append] at *
  obtain ⟨sn0, hsn⟩ : ∃ q, ss0.length = q := ⟨_, rfl⟩
  obtain ⟨lo0, hlo0, hlast⟩ := hX0.rol.last
  obtain ⟨hly0, hlz0⟩ := hlast ss0 y rfl
  have hy : y ∈ ss0 ++ [y] := by simp
  obtain ⟨lo, hlo⟩ : ∃ q, max lo0 (w2.heap.size + 1) = q := ⟨_, rfl⟩
  have hloX : lo ≤ X.heap.size := by have := hX0.rol.ro.obj.lt; omega
  have hlb : w2.heap.size + 1 ≤ lo := by omega
  have hlz : ∀ z ∈ ss0, ∀ g, z.a2 = some g → g.block < lo := fun z hz g hg => by have := hlz0 z hz g hg; omega
  have hly : ∀ g, y.a2 = some g → lo ≤ g.block := fun g hg => by have h1 := hly0 g hg; have h2 := (own_at (hX0.rol.ro.secs.own2 y hy) g hg).2.1; omega
  obtain ⟨sg, cs, cur0, hvs, hsgX, -⟩ := hX0.rol.ro.secsAt
  rw [hsn] at hvs
  have hsnk : sn0 + 1 ≤ 2000000 := by have := hX0.ns; simp only [List.length_append, List.length_singleton] at this; omega
  have x0 : X.cell? ⟨ob, 0, none⟩ = some (.slice (some ⟨sg, 0, none⟩) (sn0 + 1) cs) := by rw [← hob, ← hvs]; exact hX0.rol.ro.obj.cell 0
  obtain ⟨Y, hY⟩ : ∃ q, X.alloc (.cells #[.pointer (some ⟨fb, 0, none⟩), .pointer (some ⟨fb, 1, none⟩), .pointer (some ⟨fb, 2, none⟩), .pointer (some ⟨fb, 3, none⟩)] 115) = q := ⟨_, rfl⟩
  obtain ⟨pb, hpb⟩ : ∃ q, X.heap.size = q := ⟨_, rfl⟩
  have hbY : Below X.heap.size X Y := by rw [← hY]; exact (Below.refl _ _).alloc (Nat.le_refl _) _
  have hbWY : Below W.heap.size W Y := hbX.trans (hbY.mono hbX.size)
  have hps : Has Y pb 115 #[.pointer (some ⟨fb, 0, none⟩), .pointer (some ⟨fb, 1, none⟩), .pointer (some ⟨fb, 2, none⟩), .pointer (some ⟨fb, 3, none⟩)] := by rw [← hY, ← hpb]; exact Has.new _ _ _
  have hxy : Has Y fb 55 #[.int .i64 0, .int .i64 0, .int .i64 0, .int .i64 0] := hxs.below hbY hxs.lt
  have hyW : W.heap.size ≤ fb := by omega
  have hl2W : w2.heap.size ≤ W.heap.size := Nat.le_of_lt h.rol.ro.obj.lt
  have hRN := hidden (readNumbers_any Y (hL.below hbWY hL.lt) fb (by omega) (Nat.le_of_lt hxy.lt) a n c ws hn (hw.below hbWY (Nat.le_refl _)) (fun s hs => by have := hsz s hs; omega) pb 4 4 [(fb, 0), (fb, 1), (fb, 2), (fb, 3)] rfl hps (by
    intro p hp
    have hc : p = (fb, 0) ∨ p = (fb, 1) ∨ p = (fb, 2) ∨ p = (fb, 3) := by simpa using hp
    rcases hc with rfl | rfl | rfl | rfl
    · exact ⟨Nat.le_refl _, _, _, hxy, by show 0 < 4; decide, by decide, by decide⟩
    · exact ⟨Nat.le_refl _, _, _, hxy, by show 1 < 4; decide, by decide, by decide⟩
    · exact ⟨Nat.le_refl _, _, _, hxy, by show 2 < 4; decide, by decide, by decide⟩
    · exact ⟨Nat.le_refl _, _, _, hxy, by show 3 < 4; decide, by decide, by decide⟩) (by omega) (by decide))
  have HS := hidden h
  have HXY := hidden hxy
  have HBWY := hidden hbWY
  have HVS := hidden hvs
  have HSN := hidden hsn
  have HR := hidden hr
  have HLO := hidden (And.intro hlb (And.intro hlz hly))
  have HOB := hidden hob
  have hW0X : W.heap.size ≤ X.heap.size := hbX.size
  have hXY : Hid (X.heap.size ≤ Y.heap.size) := hbY.size
  have hd0 : ((((sn0 + 1 : Nat)) : Int) == 0) = false := by simp; omega
  rw [hob]
  clear h hw hL hn hsz hr hX0 hxs hbX hob HXE hbY hbWY hps hxy hvs hsn hlb hlz hly hlz0 hly0 hlast hlo0 hlo hl2W hsgX hy
  go_enter Tryz.func65, Tryz.ntmps65
  go_wp2_with fail
  refine hRN.out.mono ?_
  rintro e w3 ⟨hb3, hra⟩
  have HB3 : Hid (Below W.heap.size W w3) := HBWY.out.trans (hb3.mono hyW)
  have HS3 := hidden (HS.out.only HB3.out)
  have HB3S : Hid (Y.heap.size ≤ w3.heap.size) := hb3.size
  cases hq : (if ws.length = [(fb, 0), (fb, 1), (fb, 2), (fb, 3)].length then numsI ws else none) with
  | none =>
    rw [hq] at hra
    have HF : Hid (r = none) := by show _ = _; rw [← HR.out, fixI_none hq]; simp
    have hr' : e = .returned (.bool false) := hra
    subst hr'
    have HBF := hidden HS3.out.rol.ro.below
    clear hra hq hb3 hRN
    go_wp2_with fail
    go_ret
    rw [HF.out]
    exact ⟨HBF.out, rfl⟩
  | some us =>
    rw [hq] at hra
    obtain ⟨x, u, z, v, rfl, hi4, hfx⟩ := fixI_some hq
    obtain ⟨rfl, hall⟩ := hra
    have hcells : Has w3 fb 55 #[.int .i64 x, .int .i64 u, .int .i64 z, .int .i64 v] := by
      have := hall fb _ _ HXY.out
      have hu : updN [(fb, 0), (fb, 1), (fb, 2), (fb, 3)] [x, u, z, v] fb #[.int .i64 0, .int .i64 0, .int .i64 0, .int .i64 0] = #[.int .i64 x, .int .i64 u, .int .i64 z, .int .i64 v] := by
        unfold updN
        simp
      rwa [hu] at this
    have HF : Hid (r = some ((ss0.map Sp.s) ++ [{ y.s with fixs := y.s.fixs ++ [⟨x, u, z, v⟩] }], ms)) := by
      show _ = _
      rw [← HR.out, hfx]
      simp
    have HHI := hidden hi4
    have HHC := hidden hcells
    have o0 : ∀ m : Nat, (w3.drewN m).cell? ⟨ob, 0, none⟩ = some (.slice (some ⟨sg, 0, none⟩) (sn0 + 1) cs) := fun m => by rw [← HOB.out, ← HVS.out]; exact HS3.out.rol.ro.obj.cell 0
    have hix : (((sn0 + 1 : Nat) : Int) - 1) = (sn0 : Int) := by omega
    have hil : (sn0 : Int) < ((sn0 + 1 : Nat) : Int) := by omega
    have hi0 : (0 : Int) ≤ (sn0 : Int) := by omega
    clear hq hall hb3 hRN hi4 hcells hfx
    go_wp2_with fail
    go_quiet (fail)
    have hdq : Below w3.heap.size w3 (w3.drewN nq) := below_drewN (Below.refl _ _) nq
    have HS4 := hidden (HS3.out.only hdq)
    have hh4 := HHC.out.below hdq HHC.out.lt
    obtain ⟨w4, hw4⟩ : ∃ q, w3.drewN nq = q := ⟨_, rfl⟩
    rw [hw4] at HS4 hh4 ⊢
    obtain ⟨nf, hnf⟩ : ∃ q, y.s.fixs.length = q := ⟨_, rfl⟩
    have HNF := hidden hnf
    have hnf2 : nf ≤ 2000000 := by rw [← hnf]; have := HS4.out.nf y (by simp); omega
    obtain ⟨i1, hi1, hy0, hy1, hy2⟩ := info_parts Tryz.info_fixup
    have hdr : Below w4.heap.size w4 w4.drew := ⟨rfl, rfl, rfl, Nat.le_refl _, fun _ _ => rfl⟩
    have hJ0 : Hid (JF w2 w4.heap.size fb sg vs vm ss0 y nf ms ⟨x, u, z, v⟩ lo 0 w4.drew fun _ => undef) := ⟨Nat.le_refl _, fun _ => hh4, fun _ => HS4.out.rol.ro.drew, fun h => absurd h (by decide), fun h => absurd h (by decide), fun h => absurd h (by decide)⟩
    have hlo4 : lo ≤ w4.heap.size := by have h1 := hloX; have h2 := HB3S.out; have h3 := hdq.size; have h4 := hXY.out; rw [hw4] at h3; omega
    clear hdr hh4 hdq o0 hix hil hi0 hw4 hnf HHC
    go_upto_region 5 with fail
    refine wp_region_chain (m := 3) (js := [.quiet (.pointer (some ⟨sg, sn0 * 6, none⟩)) 3, .quiet (.pointer (some ⟨sg, sn0 * 6, none⟩)) 3, .quiet (.pointer (some ⟨sg, sn0 * 6, none⟩)) 3, .quiet (.pointer (some ⟨sg, sn0 * 6 + 5, none⟩)) 3, .quiet (.slice y.a2 nf y.c2) 1, .quiet (.agg #[.int .i64 x, .int .i64 u, .int .i64 z, .int .i64 v]) 0, .chain 0, .chain 1, .quiet (.pointer (some ⟨sg, sn0 * 6, none⟩)) 3, .quiet (.pointer (some ⟨sg, sn0 * 6 + 5, none⟩)) 3, .chain 2]) (by kernel_rfl) (JF w2 w4.heap.size fb sg vs vm ss0 y nf ms ⟨x, u, z, v⟩ lo) (by kernel_rfl) (by kernel_rfl) ⟨_, hJ0.out⟩ (fun vals => ?_) ?_
    · show SeqW _ _ _ _ _ _ _
      iterate 4
        refine ⟨fun kk hkk W hW => ?_, ?_⟩
        · unfold Oper.wp
          simp [go_sem]
          try exact ⟨_, rfl, rfl⟩
        simp only [Act.put, List.setIfInBounds_toArray, List.set_cons_succ, List.set_cons_zero]
      refine ⟨fun kk hkk W hW => ?_, ?_⟩
      · obtain ⟨sg', cs', cur, e1, hh, hc⟩ := (hW.ro hkk).secsAt
        rw [HVS.out] at e1
        have e2 : sg = sg' := by injection e1 with e1; injection e1 with e1; injection e1
        subst e2
        rw [HSN.out, HNF.out] at hc
        have q : W.cell? ⟨sg, sn0 * 6 + 5, none⟩ = some (.slice y.a2 nf y.c2) := (hh.cell _).trans hc
        unfold Oper.wp
        simp [go_sem, q]
        try exact ⟨_, rfl, rfl⟩
      simp only [Act.put, List.setIfInBounds_toArray, List.set_cons_succ, List.set_cons_zero]
      refine ⟨fun kk hkk W hW => ?_, ?_⟩
      · have hh := hW.has (by omega)
        have q0 : W.cell? ⟨fb, 0, none⟩ = some (.int .i64 x) := hh.cell 0
        have q1 : W.cell? ⟨fb, 1, none⟩ = some (.int .i64 u) := hh.cell 1
        have q2 : W.cell? ⟨fb, 2, none⟩ = some (.int .i64 z) := hh.cell 2
        have q3 : W.cell? ⟨fb, 3, none⟩ = some (.int .i64 v) := hh.cell 3
        unfold Oper.wp
        simp [go_sem, q0, q1, q2, q3]
        try exact ⟨_, rfl, rfl⟩
      simp only [Act.put, List.setIfInBounds_toArray, List.set_cons_succ, List.set_cons_zero]
      refine ⟨fun W hW => ?_, ?_⟩
      · have hN : JF w2 w4.heap.size fb sg vs vm ss0 y nf ms ⟨x, u, z, v⟩ lo 1 (W.alloc (.cells #[.int .i64 x, .int .i64 u, .int .i64 z, .int .i64 v] 55)) (upd vals 0 (.slice (some ⟨W.heap.size, 0, none⟩) 1 1)) := ⟨Nat.le_trans hW.high (by simp), fun h => absurd h (by decide), fun _ => (hW.ro (by decide)).alloc _, fun _ => ⟨W.heap.size, rfl, Has.new _ _ _⟩, fun h => absurd h (by decide), fun h => absurd h (by decide)⟩
        unfold Oper.wp
        simp [go_sem]
        first | exact hN | exact ⟨_, rfl, hN⟩
      simp only [Act.put, List.setIfInBounds_toArray, List.set_cons_succ, List.set_cons_zero]
      refine ⟨fun W hW => ?_, ?_⟩
      · obtain ⟨qb, hv, hh⟩ := hW.arr rfl
        have hro := hW.ro (by decide)
        obtain ⟨hlb, hlz, hly⟩ := HLO.out
        have hown := own_raise (hro.secs.own2 y (by simp)) hly
        rw [HNF.out] at hown
        refine wp_append_own W _ _ _ rfl lo 55 i1 (.agg #[.int .i64 0, .int .i64 0, .int .i64 0, .int .i64 0]) 4 32 Tryz.underlying50 hi1 hy0 hy1 hy2 rfl (by decide) _ _ _ rfl hown ⟨qb, 0, none⟩ 1 1 [.int .i64 x, .int .i64 u, .int .i64 z, .int .i64 v] hv ?_ ?_ ?_ ?_ ?_ ?_ ?_
        · rfl
        · intro t q ht
          rw [addr_row, hh.cell t]
          simpa using ht
        · intro q hq
          simp at hq
          rcases hq with rfl | rfl | rfl | rfl <;> rfl
        · unfold maxLen; omega
        · omega
        · exact Nat.le_trans hlo4 hW.high
        · intro v' w' h2 h3 _
          obtain ⟨b2, d2, rfl⟩ := own_shape h2
          have h2' : w'.ownsRow lo 55 4 (.slice b2 (y.s.fixs.length + 1) d2) (y.s.fixs.length + 1) (flatF y.s.fixs ++ [.int .i64 x, .int .i64 u, .int .i64 z, .int .i64 v]) := by rw [HNF.out]; exact h2
          have h3' : W.grownBy w' (Value.slice y.a2 y.s.fixs.length y.c2).ownBlock := by rw [HNF.out]; exact h3
          obtain ⟨sg', cs', e1, ⟨cur, hc1, hc2, hc3⟩, hro', hge⟩ := hro.fixLast hlz hly (f := ⟨x, u, z, v⟩) h3' hlb h2'
          rw [HVS.out] at e1
          have e2 : sg = sg' := by injection e1 with e1; injection e1 with e1; injection e1
          subst e2
          rw [HNF.out] at hc3 hro'
          exact ⟨_, rfl, ⟨Nat.le_trans hW.high h3.size, fun h => absurd h (by decide), fun h => absurd h (by decide), fun h => absurd h (by decide), fun _ => ⟨b2, d2, cur, rfl, hc2, hc3, hro', hge⟩, fun h => absurd h (by decide)⟩⟩
      simp only [Act.put, List.setIfInBounds_toArray, List.set_cons_succ, List.set_cons_zero]
      iterate 2
        refine ⟨fun kk hkk W hW => ?_, ?_⟩
        · unfold Oper.wp
          simp [go_sem]
          try exact ⟨_, rfl, rfl⟩
        simp only [Act.put, List.setIfInBounds_toArray, List.set_cons_succ, List.set_cons_zero]
      refine ⟨fun W hW => ?_, trivial⟩
      obtain ⟨b2, d2, cur, hv2, hc1, hc2, hro2, hge⟩ := hW.app rfl
      have htop := hW.high
      rw [HSN.out] at hc2 hro2
      rw [hv2]
      have ck : W.cell? ⟨sg, sn0 * 6 + 5, none⟩ = some (.slice y.a2 nf y.c2) := (hc1.cell _).trans hc2
      have fk := hc1.free (sn0 * 6 + 5)
      have hN : ∀ uu, JF w2 w4.heap.size fb sg vs vm ss0 y nf ms ⟨x, u, z, v⟩ lo 3 (W.setCell ⟨sg, sn0 * 6 + 5, none⟩ (.slice b2 (nf + 1) d2)) (upd vals 2 uu) := fun uu => ⟨Nat.le_trans htop (by simp), fun h => absurd h (by decide), fun h => absurd h (by decide), fun h => absurd h (by decide), fun h => absurd h (by decide), fun _ => ⟨b2, d2, hro2, hge⟩⟩
      clear hc1 hc2 hro2 hW
      unfold Oper.wp
      simp [go_sem, ck, fk]
      first | exact hN _ | exact ⟨undef, hN _⟩ | exact ⟨_, rfl, hN _⟩
    · intro W5 vals hJ
      obtain ⟨b2, d2, hro3, hge⟩ := hJ.fin rfl
      have HFF : Hid (StepN w2 (k + 1) (some ((ss0.map Sp.s) ++ [{ y.s with fixs := y.s.fixs ++ [⟨x, u, z, v⟩] }], ms)) (.returned (.bool true)) W5) :=
        ⟨hro3.below, rfl, _, _, _, _, HS4.out.addF hk HHI.out (Nat.le_trans hlo4 hJ.high) HLO.out.2.1 hge hro3, by rw [List.map_append]; rfl, rfl⟩
      simp only [putAll, List.map_cons, List.map_nil, Job.val, Act.put, List.setIfInBounds_toArray, List.set_cons_succ, List.set_cons_zero]
      clear hro3 hJ hJ0
      go_wp2_with fail
      go_ret
      rw [HF.out]
      exact HFF.out
end Go.Proofs.YtpfombelhajmlaaGreatDoor

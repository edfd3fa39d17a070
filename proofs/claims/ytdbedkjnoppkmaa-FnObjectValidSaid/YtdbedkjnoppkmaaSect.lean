/-
  Sections: plain words, and the model's functions of chapter 3.
-/
import Derived.Test.YtdbedkjnoppkmaaFix
import Derived.Test.YtdbedkjnoppkmaaNameS
import Derived.Test.YtdbedkjnoppkmaaNumAny
namespace Go.Proofs.Ytdbedkjnoppkmaa
open Go.RowKit

/-- How many bytes a fixup of a kind fills. -/
def wideOf (k : Int) : Int := if k = 1 then 1 else if k = 2 then 2 else if k = 3 then 4 else 0
theorem wideOf_bounds (k : Int) : 0 ≤ wideOf k ∧ wideOf k ≤ 4 := by unfold wideOf; split <;> (try split) <;> (try split) <;> omega
theorem fixupWide'_any (k : Int) (w : World) : Calls Try.prog 63 #[.int .i64 k] w fun e w' => e = .returned (.int .i64 (wideOf k)) ∧ Below w.heap.size w w' := by
  by_cases h1 : k < 1
  · have e : wideOf k = 0 := by unfold wideOf; rw [if_neg (by omega), if_neg (by omega), if_neg (by omega)]
    rw [e]; clear e
    go_enter Try.func63, Try.ntmps63
    go_wp2_with (go_at_call 42; (first | (with_reducible refine (l1In_yes _ _ _ (by omega) (by omega) _).mono ?_) | (with_reducible refine (l1In_low _ _ _ (by omega) _).mono ?_) | (with_reducible refine (l1In_high _ _ _ (by omega) _).mono ?_)); rintro e w' ⟨rfl, rfl⟩)
    go_ret
    exact ⟨rfl, Below.refl _ _⟩
  by_cases h3 : 3 < k
  · have e : wideOf k = 0 := by unfold wideOf; rw [if_neg (by omega), if_neg (by omega), if_neg (by omega)]
    rw [e]; clear e
    go_enter Try.func63, Try.ntmps63
    go_wp2_with (go_at_call 42; (first | (with_reducible refine (l1In_yes _ _ _ (by omega) (by omega) _).mono ?_) | (with_reducible refine (l1In_low _ _ _ (by omega) _).mono ?_) | (with_reducible refine (l1In_high _ _ _ (by omega) _).mono ?_)); rintro e w' ⟨rfl, rfl⟩)
    go_ret
    exact ⟨rfl, Below.refl _ _⟩
  rcases (show k = 1 ∨ k = 2 ∨ k = 3 by omega) with rfl | rfl | rfl
  · clear h1 h3
    go_enter Try.func63, Try.ntmps63
    go_wp2_with (go_at_call 42; (first | (with_reducible refine (l1In_yes _ _ _ (by omega) (by omega) _).mono ?_) | (with_reducible refine (l1In_low _ _ _ (by omega) _).mono ?_) | (with_reducible refine (l1In_high _ _ _ (by omega) _).mono ?_)); rintro e w' ⟨rfl, rfl⟩)
    go_ret
    exact ⟨rfl, (Below.refl _ _).alloc (Nat.le_refl _) _⟩
  · clear h1 h3
    go_enter Try.func63, Try.ntmps63
    go_wp2_with (go_at_call 42; (first | (with_reducible refine (l1In_yes _ _ _ (by omega) (by omega) _).mono ?_) | (with_reducible refine (l1In_low _ _ _ (by omega) _).mono ?_) | (with_reducible refine (l1In_high _ _ _ (by omega) _).mono ?_)); rintro e w' ⟨rfl, rfl⟩)
    go_ret
    exact ⟨rfl, (Below.refl _ _).alloc (Nat.le_refl _) _⟩
  · clear h1 h3
    go_enter Try.func63, Try.ntmps63
    go_wp2_with (go_at_call 42; (first | (with_reducible refine (l1In_yes _ _ _ (by omega) (by omega) _).mono ?_) | (with_reducible refine (l1In_low _ _ _ (by omega) _).mono ?_) | (with_reducible refine (l1In_high _ _ _ (by omega) _).mono ?_)); rintro e w' ⟨rfl, rfl⟩)
    go_ret
    exact ⟨rfl, (Below.refl _ _).alloc (Nat.le_refl _) _⟩
/-- A section, as plain data. -/
structure Sx where
  name : ByteArray
  kind : Int
  align : Int
  bytes : List Int
  size : Int
  fixs : List Fx
def Sx.agg (s : Sx) (a1 : Option Addr) (c1 : Nat) (a2 : Option Addr) (c2 : Nat) : Value :=
  .agg #[.string s.name, .int .i64 s.kind, .int .i64 s.align, .slice a1 s.bytes.length c1, .int .i64 s.size, .slice a2 s.fixs.length c2]
def Sx.long (s : Sx) : Int := if s.kind = 3 then s.size else (s.bytes.length : Int)
theorem sectionSize'_any (w : World) (s : Sx) (a1 : Option Addr) (c1 : Nat) (a2 : Option Addr) (c2 : Nat) (hl : s.bytes.length ≤ 9223372036854775807) :
    Calls Try.prog 43 #[s.agg a1 c1 a2 c2] w fun e w' => e = .returned (.int .i64 s.long) ∧ Below w.heap.size w w' := by
  obtain ⟨nm, k, al, bs, sz, fs⟩ := s
  unfold Sx.agg Sx.long
  simp only at hl ⊢
  generalize bs.length = nb at hl ⊢
  generalize fs.length = nf
  by_cases hk : k = 3
  · subst hk
    rw [if_pos rfl]
    go_enter Try.func43, Try.ntmps43
    go_wp2
    go_ret
    exact ⟨rfl, (Below.refl _ _).alloc (Nat.le_refl _) _⟩
  · rw [if_neg hk]
    have hk' : (k == 3) = false := by simpa using hk
    clear hk
    go_enter Try.func43, Try.ntmps43
    go_wp2
    go_ret
    exact ⟨rfl, (Below.refl _ _).alloc (Nat.le_refl _) _⟩
def fixOk (n many e : Int) (f : Fx) : Bool :=
  decide (wideOf f.kind ≠ 0) && decide (0 ≤ f.to) && decide (f.to < many) && decide (-1000 ≤ f.add ∧ f.add ≤ 1000) && decide (e ≤ f.pl ∧ f.pl ≤ n - wideOf f.kind)
def fixsOk (n many : Int) : Int → List Fx → Bool
  | _, [] => true
  | e, f :: r => fixOk n many e f && fixsOk n many (f.pl + wideOf f.kind) r
def sectOk (s : Sx) (many : Int) : Bool :=
  nameOk s.name.data.toList && decide (1 ≤ s.kind ∧ s.kind ≤ 3) && decide (s.align = 1 ∨ s.align = 2 ∨ s.align = 4 ∨ s.align = 8) && decide (s.bytes.length ≤ 48) && decide (s.fixs.length ≤ 6) && decide (0 ≤ s.size ∧ s.size ≤ 48) &&
  (if s.kind = 3 then decide (s.bytes.length = 0) && decide (s.fixs.length = 0) else fixsOk s.bytes.length many 0 s.fixs && decide (s.size = 0))
set_option maxHeartbeats 2000000 in
theorem sectionValid'_any (w : World) (B : Nat) (s : Sx) (many : Int) (a1 : Option Addr) (c1 : Nat) (a2 : Option Addr) (c2 : Nat) (h2 : Fixs w B a2 s.fixs) (hB : B ≤ w.heap.size) (hname : s.name.size ≤ maxLen) (hl1 : s.bytes.length ≤ 9223372036854775807) (hl2 : s.fixs.length ≤ 9223372036854775807) :
    Calls Try.prog 47 #[s.agg a1 c1 a2 c2, .int .i64 many] w fun e w' => e = .returned (.bool (sectOk s many)) ∧ Below w.heap.size w w' := by
  obtain ⟨nm, kind, al, bs, sz, fs⟩ := s
  unfold Sx.agg
  simp only at h2 hname hl1 hl2 ⊢
  have HNV := hidden (fun W => nameValid'_any nm W hname)
  have HAL := hidden (fun W => alignUp'_any 0 al W)
  obtain ⟨nb, hnb⟩ : ∃ n, n = bs.length := ⟨_, rfl⟩
  obtain ⟨nf, hnf⟩ : ∃ n, n = fs.length := ⟨_, rfl⟩
  obtain ⟨ok, hok⟩ : ∃ ok, ok = sectOk ⟨nm, kind, al, bs, sz, fs⟩ many := ⟨_, rfl⟩
  have HOK : Hid (ok = (nameOk nm.data.toList && decide (1 ≤ kind ∧ kind ≤ 3) && decide (al = 1 ∨ al = 2 ∨ al = 4 ∨ al = 8) && decide (nb ≤ 48) && decide (nf ≤ 6) && decide (0 ≤ sz ∧ sz ≤ 48) &&
      (if kind = 3 then decide (nb = 0) && decide (nf = 0) else fixsOk nb many 0 fs && decide (sz = 0)))) := by
    show _ = _; rw [hok, hnb, hnf]; rfl
  rw [← hok, ← hnb, ← hnf]
  rw [← hnb] at hl1
  rw [← hnf] at hl2
  have HNF := hidden hnf
  have H2 := hidden h2
  clear hok hnb hnf h2 hname
  have hup : upTo 0 al = if al = 1 ∨ al = 2 ∨ al = 4 ∨ al = 8 then 0 else -1 := by
    unfold upTo
    rw [if_neg (by omega)]
    split
    · rename_i h; rcases h with rfl | rfl | rfl | rfl <;> rfl
    · rfl
  rw [hup] at HAL
  clear hup
  rcases hn : nameOk nm.data.toList with _ | _
  · rw [hn] at HNV HOK
    have HF : Hid (ok = false) := by show _ = _; rw [HOK.out]; simp
    clear HOK H2
    go_enter Try.func47, Try.ntmps47
    go_wp2_with (first | (go_at_call 41; refine (HNV.out _).mono ?_; rintro e w' ⟨rfl, rfl⟩))
    go_ret
    exact ⟨ret_bool HF.out.symm, (Below.refl _ _).alloc (Nat.le_refl _) _⟩
  rw [hn] at HNV HOK
  clear hn
  by_cases k1 : kind < 1
  · have HF : Hid (ok = false) := by show _ = _; rw [HOK.out]; simp; omega
    clear HOK H2
    go_enter Try.func47, Try.ntmps47
    go_wp2_with (first | (go_at_call 41; refine (HNV.out _).mono ?_; rintro e w' ⟨rfl, rfl⟩) | (go_at_call 42; (first | (with_reducible refine (l1In_yes _ _ _ (by omega) (by omega) _).mono ?_) | (with_reducible refine (l1In_low _ _ _ (by omega) _).mono ?_) | (with_reducible refine (l1In_high _ _ _ (by omega) _).mono ?_)); rintro e w' ⟨rfl, rfl⟩))
    go_ret
    exact ⟨ret_bool HF.out.symm, (Below.refl _ _).alloc (Nat.le_refl _) _⟩
  by_cases k3 : 3 < kind
  · have HF : Hid (ok = false) := by show _ = _; rw [HOK.out]; simp; omega
    clear HOK H2
    go_enter Try.func47, Try.ntmps47
    go_wp2_with (first | (go_at_call 41; refine (HNV.out _).mono ?_; rintro e w' ⟨rfl, rfl⟩) | (go_at_call 42; (first | (with_reducible refine (l1In_yes _ _ _ (by omega) (by omega) _).mono ?_) | (with_reducible refine (l1In_low _ _ _ (by omega) _).mono ?_) | (with_reducible refine (l1In_high _ _ _ (by omega) _).mono ?_)); rintro e w' ⟨rfl, rfl⟩))
    go_ret
    exact ⟨ret_bool HF.out.symm, (Below.refl _ _).alloc (Nat.le_refl _) _⟩
  by_cases ha : al = 1 ∨ al = 2 ∨ al = 4 ∨ al = 8
  case neg =>
    rw [if_neg ha] at HAL
    have HF : Hid (ok = false) := by show _ = _; rw [HOK.out]; simp; omega
    clear HOK H2
    go_enter Try.func47, Try.ntmps47
    go_wp2_with (first | (go_at_call 41; refine (HNV.out _).mono ?_; rintro e w' ⟨rfl, rfl⟩) | (go_at_call 42; (first | (with_reducible refine (l1In_yes _ _ _ (by omega) (by omega) _).mono ?_) | (with_reducible refine (l1In_low _ _ _ (by omega) _).mono ?_) | (with_reducible refine (l1In_high _ _ _ (by omega) _).mono ?_)); rintro e w' ⟨rfl, rfl⟩) | (go_at_call 70; refine (HAL.out _).mono ?_; rintro e w' ⟨rfl, rfl⟩))
    go_ret
    exact ⟨ret_bool HF.out.symm, (Below.refl _ _).alloc (Nat.le_refl _) _⟩
  rw [if_pos ha] at HAL
  by_cases hb : 48 < nb
  · have hb' : (48 : Int) < (nb : Int) := by omega
    have HF : Hid (ok = false) := by show _ = _; rw [HOK.out]; simp; omega
    clear HOK H2
    go_enter Try.func47, Try.ntmps47
    go_wp2_with (first | (go_at_call 41; refine (HNV.out _).mono ?_; rintro e w' ⟨rfl, rfl⟩) | (go_at_call 42; (first | (with_reducible refine (l1In_yes _ _ _ (by omega) (by omega) _).mono ?_) | (with_reducible refine (l1In_low _ _ _ (by omega) _).mono ?_) | (with_reducible refine (l1In_high _ _ _ (by omega) _).mono ?_)); rintro e w' ⟨rfl, rfl⟩) | (go_at_call 70; refine (HAL.out _).mono ?_; rintro e w' ⟨rfl, rfl⟩))
    go_ret
    exact ⟨ret_bool HF.out.symm, (Below.refl _ _).alloc (Nat.le_refl _) _⟩
  have hb' : ¬ (48 : Int) < (nb : Int) := by omega
  by_cases hf : 6 < nf
  · have hf' : (6 : Int) < (nf : Int) := by omega
    have HF : Hid (ok = false) := by show _ = _; rw [HOK.out]; simp; omega
    clear HOK H2
    go_enter Try.func47, Try.ntmps47
    go_wp2_with (first | (go_at_call 41; refine (HNV.out _).mono ?_; rintro e w' ⟨rfl, rfl⟩) | (go_at_call 42; (first | (with_reducible refine (l1In_yes _ _ _ (by omega) (by omega) _).mono ?_) | (with_reducible refine (l1In_low _ _ _ (by omega) _).mono ?_) | (with_reducible refine (l1In_high _ _ _ (by omega) _).mono ?_)); rintro e w' ⟨rfl, rfl⟩) | (go_at_call 70; refine (HAL.out _).mono ?_; rintro e w' ⟨rfl, rfl⟩))
    go_ret
    exact ⟨ret_bool HF.out.symm, (Below.refl _ _).alloc (Nat.le_refl _) _⟩
  have hf' : ¬ (6 : Int) < (nf : Int) := by omega
  by_cases s0 : sz < 0
  · have HF : Hid (ok = false) := by show _ = _; rw [HOK.out]; simp; omega
    clear HOK H2
    go_enter Try.func47, Try.ntmps47
    go_wp2_with (first | (go_at_call 41; refine (HNV.out _).mono ?_; rintro e w' ⟨rfl, rfl⟩) | (go_at_call 42; (first | (with_reducible refine (l1In_yes _ _ _ (by omega) (by omega) _).mono ?_) | (with_reducible refine (l1In_low _ _ _ (by omega) _).mono ?_) | (with_reducible refine (l1In_high _ _ _ (by omega) _).mono ?_)); rintro e w' ⟨rfl, rfl⟩) | (go_at_call 70; refine (HAL.out _).mono ?_; rintro e w' ⟨rfl, rfl⟩))
    go_ret
    exact ⟨ret_bool HF.out.symm, (Below.refl _ _).alloc (Nat.le_refl _) _⟩
  by_cases s1 : 48 < sz
  · have HF : Hid (ok = false) := by show _ = _; rw [HOK.out]; simp; omega
    clear HOK H2
    go_enter Try.func47, Try.ntmps47
    go_wp2_with (first | (go_at_call 41; refine (HNV.out _).mono ?_; rintro e w' ⟨rfl, rfl⟩) | (go_at_call 42; (first | (with_reducible refine (l1In_yes _ _ _ (by omega) (by omega) _).mono ?_) | (with_reducible refine (l1In_low _ _ _ (by omega) _).mono ?_) | (with_reducible refine (l1In_high _ _ _ (by omega) _).mono ?_)); rintro e w' ⟨rfl, rfl⟩) | (go_at_call 70; refine (HAL.out _).mono ?_; rintro e w' ⟨rfl, rfl⟩))
    go_ret
    exact ⟨ret_bool HF.out.symm, (Below.refl _ _).alloc (Nat.le_refl _) _⟩
  by_cases hk : kind = 3
  · subst hk
    have HR : Hid (ok = (decide (nb = 0) && decide (nf = 0))) := by
      show _ = _; rw [HOK.out]; simp; omega
    clear HOK H2 k1 k3
    by_cases b0 : nb = 0
    · have b0' : ((nb : Int) == 0) = true := by simp [b0]
      by_cases f0 : nf = 0
      · have f0' : ((nf : Int) == 0) = true := by simp [f0]
        have HF : Hid (ok = true) := by show _ = _; rw [HR.out]; simp [b0, f0]
        clear HR b0 f0
        go_enter Try.func47, Try.ntmps47
        go_wp2_with (first | (go_at_call 41; refine (HNV.out _).mono ?_; rintro e w' ⟨rfl, rfl⟩) | (go_at_call 42; (first | (with_reducible refine (l1In_yes _ _ _ (by omega) (by omega) _).mono ?_) | (with_reducible refine (l1In_low _ _ _ (by omega) _).mono ?_) | (with_reducible refine (l1In_high _ _ _ (by omega) _).mono ?_)); rintro e w' ⟨rfl, rfl⟩) | (go_at_call 70; refine (HAL.out _).mono ?_; rintro e w' ⟨rfl, rfl⟩))
        go_ret
        exact ⟨ret_bool HF.out.symm, (Below.refl _ _).alloc (Nat.le_refl _) _⟩
      · have f0' : ((nf : Int) == 0) = false := by simp; omega
        have HF : Hid (ok = false) := by show _ = _; rw [HR.out]; simp [b0, f0]
        clear HR b0 f0
        go_enter Try.func47, Try.ntmps47
        go_wp2_with (first | (go_at_call 41; refine (HNV.out _).mono ?_; rintro e w' ⟨rfl, rfl⟩) | (go_at_call 42; (first | (with_reducible refine (l1In_yes _ _ _ (by omega) (by omega) _).mono ?_) | (with_reducible refine (l1In_low _ _ _ (by omega) _).mono ?_) | (with_reducible refine (l1In_high _ _ _ (by omega) _).mono ?_)); rintro e w' ⟨rfl, rfl⟩) | (go_at_call 70; refine (HAL.out _).mono ?_; rintro e w' ⟨rfl, rfl⟩))
        go_ret
        exact ⟨ret_bool HF.out.symm, (Below.refl _ _).alloc (Nat.le_refl _) _⟩
    · have b0' : ((nb : Int) == 0) = false := by simp; omega
      have HF : Hid (ok = false) := by show _ = _; rw [HR.out]; simp [b0]
      clear HR b0
      go_enter Try.func47, Try.ntmps47
      go_wp2_with (first | (go_at_call 41; refine (HNV.out _).mono ?_; rintro e w' ⟨rfl, rfl⟩) | (go_at_call 42; (first | (with_reducible refine (l1In_yes _ _ _ (by omega) (by omega) _).mono ?_) | (with_reducible refine (l1In_low _ _ _ (by omega) _).mono ?_) | (with_reducible refine (l1In_high _ _ _ (by omega) _).mono ?_)); rintro e w' ⟨rfl, rfl⟩) | (go_at_call 70; refine (HAL.out _).mono ?_; rintro e w' ⟨rfl, rfl⟩))
      go_ret
      exact ⟨ret_bool HF.out.symm, (Below.refl _ _).alloc (Nat.le_refl _) _⟩
  have hk' : (kind == 3) = false := by simpa using hk
  have HR : Hid (ok = (fixsOk nb many 0 fs && decide (sz = 0))) := by
    show _ = _; rw [HOK.out, if_neg hk]; simp; omega
  clear HOK hk
  go_enter Try.func47, Try.ntmps47
  go_wp2_with (first | (go_at_call 41; refine (HNV.out _).mono ?_; rintro e w' ⟨rfl, rfl⟩) | (go_at_call 42; (first | (with_reducible refine (l1In_yes _ _ _ (by omega) (by omega) _).mono ?_) | (with_reducible refine (l1In_low _ _ _ (by omega) _).mono ?_) | (with_reducible refine (l1In_high _ _ _ (by omega) _).mono ?_)); rintro e w' ⟨rfl, rfl⟩) | (go_at_call 70; refine (HAL.out _).mono ?_; rintro e w' ⟨rfl, rfl⟩))
  go_loopw [5, 6] (fun en i wr => ∃ (k : Nat) (e : Int), i = .int .i64 k ∧ en = .int .i64 e ∧ k ≤ nf ∧ 0 ≤ e ∧ e ≤ 48 ∧ Hid (fixsOk nb many 0 fs = fixsOk nb many e (fs.drop k)) ∧ Below (w.heap.size + 1) (w.alloc (.cells #[.string nm, .int .i64 kind, .int .i64 al, .slice a1 nb c1, .int .i64 sz, .slice a2 nf c2] 61)) wr) (fun _ i _ => nf - (intOf i).toNat)
  case atStart => exact ⟨0, 0, rfl, rfl, Nat.zero_le _, by omega, by omega, hidden (by simp), Below.refl _ _⟩
  case round =>
    obtain ⟨k, e, rfl, rfl, hk, he0, he1, hfo, hbw⟩ := hrel
    have hbx : Below w.heap.size w wr := ((Below.refl _ _).alloc (Nat.le_refl _) _).trans (hbw.mono (Nat.le_succ _))
    have HX : Hid (∀ (W : World), Below wr.heap.size wr W → ∀ j, W.cell? ⟨w.heap.size, j, none⟩ = (#[.string nm, .int .i64 kind, .int .i64 al, .slice a1 nb c1, .int .i64 sz, .slice a2 nf c2] : Array Value)[j]?) := fun W hW j => by
      have s0 := hbw.size
      have s1 : (w.alloc (.cells #[.string nm, .int .i64 kind, .int .i64 al, .slice a1 nb c1, .int .i64 sz, .slice a2 nf c2] 61)).heap.size = w.heap.size + 1 := by simp
      rw [hW.cell (by show w.heap.size < _; omega), hbw.cell (by show w.heap.size < _; omega)]
      exact (Has.new w 61 _).cell j
    have q3 : wr.cell? ⟨w.heap.size, 3, none⟩ = some (.slice a1 nb c1) := HX.out wr (Below.refl _ _) 3
    have q4 : wr.cell? ⟨w.heap.size, 4, none⟩ = some (.int .i64 sz) := HX.out wr (Below.refl _ _) 4
    have q5 : wr.cell? ⟨w.heap.size, 5, none⟩ = some (.slice a2 nf c2) := HX.out wr (Below.refl _ _) 5
    by_cases hlt : k < nf
    · have hi : (k : Int) < (nf : Int) := by omega
      have hkl : k < fs.length := by rw [← HNF.out]; exact hlt
      obtain ⟨b2, o2, rfl, _, p0, p1, p2, p3⟩ := (H2.out.below (hbx.mono hB)).at_ hkl
      obtain ⟨g, hfk⟩ : ∃ g, fs[k] = g := ⟨_, rfl⟩
      rw [hfk] at p0 p1 p2 p3
      have HD : Hid (fs.drop k = g :: fs.drop (k + 1)) := by show _ = _; rw [List.drop_eq_getElem_cons hkl, hfk]
      obtain ⟨pl, gk, to, ad⟩ := g
      simp only at p0 p1 p2 p3
      have HFW := hidden (fun W => fixupWide'_any gk W)
      have HG : Hid (fixsOk nb many 0 fs = (fixOk nb many e ⟨pl, gk, to, ad⟩ && fixsOk nb many (pl + wideOf gk) (fs.drop (k + 1)))) := by
        show _ = _; rw [hfo.out, HD.out]; rfl
      obtain ⟨w0, w4⟩ := wideOf_bounds gk
      obtain ⟨wd, hwd⟩ : ∃ x, wideOf gk = x := ⟨_, rfl⟩
      rw [hwd] at HFW HG w0 w4
      have HGO : Hid (fixOk nb many e ⟨pl, gk, to, ad⟩ = (decide (wd ≠ 0) && decide (0 ≤ to) && decide (to < many) && decide (-1000 ≤ ad ∧ ad ≤ 1000) && decide (e ≤ pl ∧ pl ≤ nb - wd))) := by
        show _ = _; unfold fixOk; simp only [hwd]
      clear hfk hkl hfo HD hwd
      go_wp2_with fail
      refine (HFW.out _).mono ?_
      clear HFW
      rintro e3 w3 ⟨rfl, hb3⟩
      have s1 : (wr.alloc (.cells #[.int .i64 pl, .int .i64 gk, .int .i64 to, .int .i64 ad] 94)).heap.size = wr.heap.size + 1 := by simp
      have hb4 : Below wr.heap.size wr w3 := ((Below.refl _ _).alloc (Nat.le_refl _) _).trans (hb3.mono (by rw [s1]; omega))
      have RX : ∀ j, w3.cell? ⟨wr.heap.size, j, none⟩ = (#[.int .i64 pl, .int .i64 gk, .int .i64 to, .int .i64 ad] : Array Value)[j]? := fun j => by
        rw [hb3.cell (by show wr.heap.size < _; rw [s1]; omega)]
        exact (Has.new wr 94 _).cell j
      have r0 : w3.cell? ⟨wr.heap.size, 0, none⟩ = some (.int .i64 pl) := RX 0
      have r2 : w3.cell? ⟨wr.heap.size, 2, none⟩ = some (.int .i64 to) := RX 2
      have r3 : w3.cell? ⟨wr.heap.size, 3, none⟩ = some (.int .i64 ad) := RX 3
      have t3 : w3.cell? ⟨w.heap.size, 3, none⟩ = some (.slice a1 nb c1) := HX.out w3 hb4 3
      have hbx4 : Below w.heap.size w w3 := hbx.trans (hb4.mono hbx.size)
      have hbw4 := hbw.trans (hb4.mono (by have := hbw.size; simpa using this))
      clear RX s1 hb3 hb4 q3 q4 q5 p0 p1 p2 p3 hbx hbw HX
      by_cases z0 : wd = 0
      · have z0' : (wd == 0) = true := by simp [z0]
        have HF : Hid (ok = false) := by show _ = _; rw [HR.out, HG.out, HGO.out]; simp [z0]
        clear HG HGO HR z0
        go_wp2_with fail
        go_ret
        exact ⟨ret_bool HF.out.symm, hbx4⟩
      have z0' : (wd == 0) = false := by simpa using z0
      by_cases z1 : to < 0
      · have HF : Hid (ok = false) := by show _ = _; rw [HR.out, HG.out, HGO.out]; simp; omega
        clear HG HGO HR z0
        go_wp2_with fail
        go_ret
        exact ⟨ret_bool HF.out.symm, hbx4⟩
      by_cases z2 : many ≤ to
      · have HF : Hid (ok = false) := by show _ = _; rw [HR.out, HG.out, HGO.out]; simp; omega
        clear HG HGO HR z0
        go_wp2_with fail
        go_ret
        exact ⟨ret_bool HF.out.symm, hbx4⟩
      by_cases z3 : ad < -1000
      · have HF : Hid (ok = false) := by show _ = _; rw [HR.out, HG.out, HGO.out]; simp; omega
        clear HG HGO HR z0
        go_wp2_with (go_at_call 42; (first | (with_reducible refine (l1In_yes _ _ _ (by omega) (by omega) _).mono ?_) | (with_reducible refine (l1In_low _ _ _ (by omega) _).mono ?_) | (with_reducible refine (l1In_high _ _ _ (by omega) _).mono ?_)); rintro e w' ⟨rfl, rfl⟩)
        go_ret
        exact ⟨ret_bool HF.out.symm, hbx4⟩
      by_cases z4 : 1000 < ad
      · have HF : Hid (ok = false) := by show _ = _; rw [HR.out, HG.out, HGO.out]; simp; omega
        clear HG HGO HR z0
        go_wp2_with (go_at_call 42; (first | (with_reducible refine (l1In_yes _ _ _ (by omega) (by omega) _).mono ?_) | (with_reducible refine (l1In_low _ _ _ (by omega) _).mono ?_) | (with_reducible refine (l1In_high _ _ _ (by omega) _).mono ?_)); rintro e w' ⟨rfl, rfl⟩)
        go_ret
        exact ⟨ret_bool HF.out.symm, hbx4⟩
      by_cases z5 : pl < e
      · have HF : Hid (ok = false) := by show _ = _; rw [HR.out, HG.out, HGO.out]; simp; omega
        clear HG HGO HR z0
        go_wp2_with (go_at_call 42; (first | (with_reducible refine (l1In_yes _ _ _ (by omega) (by omega) _).mono ?_) | (with_reducible refine (l1In_low _ _ _ (by omega) _).mono ?_) | (with_reducible refine (l1In_high _ _ _ (by omega) _).mono ?_)); rintro e w' ⟨rfl, rfl⟩)
        go_ret
        exact ⟨ret_bool HF.out.symm, hbx4⟩
      by_cases z6 : (nb : Int) - wd < pl
      · have HF : Hid (ok = false) := by show _ = _; rw [HR.out, HG.out, HGO.out]; simp; omega
        clear HG HGO HR z0
        go_wp2_with (go_at_call 42; (first | (with_reducible refine (l1In_yes _ _ _ (by omega) (by omega) _).mono ?_) | (with_reducible refine (l1In_low _ _ _ (by omega) _).mono ?_) | (with_reducible refine (l1In_high _ _ _ (by omega) _).mono ?_)); rintro e w' ⟨rfl, rfl⟩)
        go_ret
        exact ⟨ret_bool HF.out.symm, hbx4⟩
      have HN : Hid (fixsOk nb many 0 fs = fixsOk nb many (pl + wd) (fs.drop (k + 1))) := by
        show _ = _
        have : fixOk nb many e ⟨pl, gk, to, ad⟩ = true := by rw [HGO.out]; simp; omega
        rw [HG.out, this, Bool.true_and]
      clear HG HGO z0
      go_wp2_with (go_at_call 42; (first | (with_reducible refine (l1In_yes _ _ _ (by omega) (by omega) _).mono ?_) | (with_reducible refine (l1In_low _ _ _ (by omega) _).mono ?_) | (with_reducible refine (l1In_high _ _ _ (by omega) _).mono ?_)); rintro e w' ⟨rfl, rfl⟩)
      go_roundw
      case rel => exact ⟨k + 1, pl + wd, by go_num, by go_num, by omega, by omega, by omega, HN, hbw4⟩
      case measure => simp [intOf]; omega
    · have hi : ¬ (k : Int) < (nf : Int) := by omega
      have HF : Hid (ok = decide (sz = 0)) := by
        show _ = _
        have hd : fs.drop k = [] := List.drop_eq_nil_of_le (by rw [← HNF.out]; omega)
        rw [HR.out, hfo.out, hd]; simp [fixsOk]
      clear HR hfo
      by_cases z : sz = 0
      · have z' : (sz == 0) = true := by simp [z]
        have HT : Hid (ok = true) := by show _ = _; rw [HF.out]; simp [z]
        clear HF z HX q3
        go_wp2_with fail
        go_ret
        exact ⟨ret_bool HT.out.symm, hbx⟩
      · have z' : (sz == 0) = false := by simpa using z
        have HT : Hid (ok = false) := by show _ = _; rw [HF.out]; simp [z]
        clear HF z HX q3
        go_wp2_with fail
        go_ret
        exact ⟨ret_bool HT.out.symm, hbx⟩

end Go.Proofs.Ytdbedkjnoppkmaa

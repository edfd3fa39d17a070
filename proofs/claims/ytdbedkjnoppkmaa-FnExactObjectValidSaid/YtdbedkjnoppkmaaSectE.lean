/-
  laws.eqSection: equal sections are found equal.
-/
import Derived.Test.YtdbedkjnoppkmaaSectL
namespace Go.Proofs.Ytdbedkjnoppkmaa
open Go.RowKit

set_option maxHeartbeats 1000000 in
theorem eqSection_yes (w : World) (B1 B2 : Nat) (s : Sx) (a1 : Option Addr) (c1 : Nat) (a2 : Option Addr) (c2 : Nat) (b1 : Option Addr) (d1 : Nat) (b2 : Option Addr) (d2 : Nat)
    (h1 : Ints w .u8 B1 a1 s.bytes) (h2 : Fixs w B1 a2 s.fixs) (k1 : Ints w .u8 B2 b1 s.bytes) (k2 : Fixs w B2 b2 s.fixs) (hB1 : B1 ≤ w.heap.size) (hB2 : B2 ≤ w.heap.size) (hl1 : s.bytes.length ≤ 9223372036854775807) (hl2 : s.fixs.length ≤ 9223372036854775807) :
    Calls Try.prog 54 #[s.agg a1 c1 a2 c2, s.agg b1 d1 b2 d2] w fun e w' => e = .returned (.bool true) ∧ Below w.heap.size w w' := by
  obtain ⟨nm, kind, al, bs, sz, fs⟩ := s
  unfold Sx.agg
  simp only at h1 h2 k1 k2 hl1 hl2 ⊢
  have HE1 := hidden (fun (W : World) (hW : Below w.heap.size w W) => eqByteS_yes W B1 B2 a1 b1 c1 d1 bs (h1.below (hW.mono hB1)) (k1.below (hW.mono hB2)) hl1)
  have HE2 := hidden (fun (W : World) (hW : Below w.heap.size w W) => eqFixupS_yes W B1 B2 a2 b2 c2 d2 fs.length fs rfl (h2.below (hW.mono hB1)) (k2.below (hW.mono hB2)) (Nat.le_trans hB1 hW.size) (Nat.le_trans hB2 hW.size) hl2)
  obtain ⟨nb, hnb⟩ : ∃ n, n = bs.length := ⟨_, rfl⟩
  obtain ⟨nf, hnf⟩ : ∃ n, n = fs.length := ⟨_, rfl⟩
  rw [← hnb] at HE1 ⊢
  rw [← hnf] at HE2 ⊢
  have hss : (nm.toList == nm.toList) = true := beq_self_eq_true _
  clear h1 h2 k1 k2 hnb hnf hl1 hl2
  go_enter Try.func54, Try.ntmps54
  go_wp2_with fail
  refine (HE1.out _ (((Below.refl _ _).alloc (Nat.le_refl _) _).alloc (by simp) _)).mono ?_
  clear HE1
  rintro e w1 ⟨rfl, m, rfl⟩
  have hb1 : Below w.heap.size w _ := below_drewN (((Below.refl w.heap.size w).alloc (Nat.le_refl _) (.cells #[.string nm, .int .i64 kind, .int .i64 al, .slice a1 nb c1, .int .i64 sz, .slice a2 nf c2] 61)).alloc (by simp) (.cells #[.string nm, .int .i64 kind, .int .i64 al, .slice b1 nb d1, .int .i64 sz, .slice b2 nf d2] 61)) m
  go_wp2_with fail
  refine (HE2.out _ hb1).mono ?_
  clear HE2
  rintro e w2 ⟨rfl, hb2⟩
  have hb3 : Below w.heap.size w w2 := hb1.trans (hb2.mono hb1.size)
  clear hb1 hb2
  go_wp2_with fail
  go_ret
  exact ⟨rfl, hb3⟩

end Go.Proofs.Ytdbedkjnoppkmaa

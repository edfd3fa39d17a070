/-
  Contracts of the draws of bytes.
-/
import Derived.Test.YtjafekjcncmjjaaRegion
import Derived.Test.YtjafekjcncmjjaaBase
namespace Go.Proofs.Ytjafekjcncmjjaa
open Go.RowKit

theorem lits_at_k (k : IntKind) (cs : Array Value) (zs : List Int) (hcs : cs = (zs.map (Value.int k)).toArray) (i : Nat) (hi : i < zs.length) : cs[i]? = some (.int k (zs.getD i 0)) := by
  subst hcs
  simp [List.getD, List.getElem?_eq_getElem hi]
theorem lit_read_k (k : IntKind) {t : TypeId} {w : World} {b : Nat} {cs : Array Value} (zs : List Int) (lo hi : Int) (h : Has w b t cs) (hcs : cs = (zs.map (Value.int k)).toArray) (hz : ∀ z ∈ zs, lo ≤ z ∧ z < hi) (i : Nat) (hi' : i < zs.length) :
    ∃ z, w.cell? ⟨b, i, none⟩ = some (.int k z) ∧ lo ≤ z ∧ z < hi :=
  ⟨_, (h.cell i).trans (lits_at_k k cs zs hcs i hi'), lits_in zs lo hi hz i hi'⟩

/-- What the draw of bytes leaves. -/
def DrawnBytes (w : World) (B g : Nat) (P most : Int) (e : Ending) (w' : World) : Prop :=
  ∃ (v : Value) (l : List Int), e = .returned v ∧ w'.ownsRow w.heap.size 5 1 v l.length (l.map (Value.int .u8)) ∧ (∀ x ∈ l, (Lit.int .u8 x).wf = true) ∧ (l.length : Int) ≤ most ∧
    Rd w' B g (P + 1 + 2 * most) ∧ w.grownBy w' (some g)
set_option maxHeartbeats 2000000 in
theorem l20Bytes_any (w : World) (B g : Nat) (P most : Int) (h : Rd w B g P) (hm : 0 ≤ most) (hm' : most ≤ 100000) (hP : P + 1 + 2 * most ≤ 1000000) :
    Calls Try.prog 57 #[.pointer (some ⟨g, 0, none⟩), .int .i64 most] w (DrawnBytes w B g P most) := by
  obtain ⟨i0, hi, hz0, hz1, hz2⟩ := info_parts Try.info_u8
  have hgs := h.lt
  have hBg : B ≤ g := h.1
  go_enter Try.func57, Try.ntmps57
  go_wp2_with fail
  refine (pick_any _ B g P (most + 1) (h.alloc _) (by omega) (by omega) (by omega)).mono ?_
  rintro e w1 ⟨x, rfl, hx0, hx1, hr1, hg1⟩
  obtain ⟨j0, rfl⟩ := Int.eq_ofNat_of_zero_le hx0
  have hown1 : w1.ownsRow w.heap.size 5 1 (.slice (some ⟨w.heap.size, 0, none⟩) 0 0) 0 (([] : List Int).map (Value.int .u8)) :=
    (World.ownsRow_lit (base := w.heap.size) (e := 5) (size := 1) w #[] 0 (Nat.le_refl _) (by unfold maxLen; omega) rfl).kept hg1 (.inr (by simp [Value.ownBlock]; omega))
  have hgw1 : w.grownBy w1 (some g) := only_trans (only_alloc (World.grownBy.refl w _) _) hg1
  clear h hg1
  go_wp2
  go_loopw [5, 6] (fun v k wr => ∃ (j : Nat) (l : List Int) (Q : Int), k = .int .i64 j ∧ (l.length : Int) + j ≤ most ∧ Q + 2 * j ≤ P + 1 + 2 * most ∧ Rd wr B g Q ∧
      wr.ownsRow w.heap.size 5 1 v l.length (l.map (Value.int .u8)) ∧ Hid (∀ x ∈ l, (Lit.int .u8 x).wf = true) ∧ w.grownBy wr (some g))
    (fun _ k _ => (intOf k).toNat)
  case atStart => exact ⟨j0, [], P + 1, rfl, by simp; omega, by omega, hr1, hown1, hidden (by simp), hgw1⟩
  case round =>
    obtain ⟨j, l, Q, rfl, hlj, hQ, hr, hown, hwf, hgw⟩ := hrel
    clear hr1 hown1 hgw1
    have hsz := hgw.size
    rcases Nat.eq_zero_or_pos j with rfl | hjp
    · go_wp2
      go_ret
      exact ⟨_, l, rfl, hown, hwf.out, by omega, hr.mono (by omega), hgw⟩
    · obtain ⟨j, rfl⟩ : ∃ j', j = j' + 1 := ⟨j - 1, by omega⟩
      go_wp2_with fail
      refine (pick_any _ B g Q 256 hr (by omega) (by omega) (by omega)).mono ?_
      rintro e w2 ⟨x, rfl, x0, x1, hr2, hg2⟩
      have hown2 := hown.kept hg2 (.inr (fun e => by have := (hown.lt _ e).1; omega))
      have hgw2 := only_trans hgw hg2
      have s2 := hr2.lt
      clear hr hown hgw hg2
      go_wp2_with fail
      refine (pick_any _ B g (Q + 1) 3 (hr2.alloc _) (by omega) (by omega) (by omega)).mono ?_
      rintro e w3 ⟨y, rfl, y0, y1, hr3, hg3⟩
      obtain ⟨i, rfl⟩ := Int.eq_ofNat_of_zero_le y0
      obtain ⟨z, hz, zlo, zhi⟩ := lit_read_k .u8 [x, 0, 255] 0 256 ((Has.new _ _ _).grown hg3 (by simp; omega)) rfl (by simp; omega) i (by simp; omega)
      have hown3 := (hown2.alloc _).kept hg3 (.inr (fun e => by have := (hown2.lt _ e).1; omega))
      have hgw3 := only_trans (only_alloc hgw2 _) hg3
      clear hr2 hown2 hgw2 hg3
      have HO := hidden hown3
      have hnb : Hid (∀ q, _ = some q → w.heap.size ≤ q) := fun q hq => (hown3.lt q hq).1
      have s3 := hgw3.size
      have hl2 : l.length + 1 ≤ 100000 := by omega
      go_wp2_with (at_builtin; refine wpList_append_own _ rfl _ _ 22 rfl w.heap.size 5 i0 (.int .u8 0) 1 1 Try.underlying22 hi hz0 hz1 hz2 rfl (by decide) _ _ _ rfl (HO.out.alloc _) ⟨w3.heap.size, 0, none⟩ 1 1 [.int .u8 z] rfl rfl ?c1 ?c2 ?c3 ?c4 ?c5 ?_)
      case c1 =>
        intro t u ht
        match t, ht with
        | 0, ht => simp at ht; subst ht; simp [Addr.add]
      case c2 => intro u hu; simp at hu; subst hu; rfl
      case c3 => unfold maxLen; omega
      case c4 => omega
      case c5 => simp; omega
      · intro v' w4 hown4 hgrow _
        have hown5 : w4.ownsRow w.heap.size 5 1 v' (l ++ [z]).length ((l ++ [z]).map (Value.int .u8)) := by simpa using hown4
        have hr5 := (hr3.alloc _).grown hgrow (fun q hq => ⟨by have := hnb.out q hq; omega, by have := hnb.out q hq; omega⟩)
        have hgw5 := only_own (only_alloc hgw3 _) hgrow (fun q hq => hnb.out q hq)
        have hwf5 : Hid (∀ x ∈ l ++ [z], (Lit.int .u8 x).wf = true) := fun x hx => by
          rcases List.mem_append.1 hx with h | h
          · exact hwf.out x h
          · simp at h; subst h; exact wf_u8.mpr ⟨zlo, zhi⟩
        clear hown4 hgrow hown3 HO hnb hwf hr3 hgw3 hz
        go_wp2
        go_roundw
        case rel => exact ⟨j, l ++ [z], _, by go_num, by simp; omega, by omega, hr5, hown5, hwf5, hgw5⟩
        case measure => simp [intOf]

/-- What the draw of bytes, a place and a width leaves. -/
def DrawnPlace (w : World) (e : Ending) (w' : World) : Prop :=
  ∃ (a : Option Addr) (c : Nat) (l : List Int) (n k : Int), e = .returned (.tuple #[.slice a l.length c, .int .i64 n, .int .i64 k]) ∧ l.length ≤ c ∧ Ints w' .u8 w'.heap.size a l ∧ l.length ≤ 9 ∧ -1 ≤ n ∧ n ≤ 8 ∧ 0 ≤ k ∧ k ≤ 5 ∧ Below w.heap.size w w'




































end Go.Proofs.Ytjafekjcncmjjaa

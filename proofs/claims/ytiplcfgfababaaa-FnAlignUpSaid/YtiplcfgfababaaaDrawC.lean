/-
  Contract of the draw of a number and a multiple: whatever order Go takes, it returns two numbers.
-/
import Derived.Test.YtiplcfgfababaaaRegion
import Derived.Outline
namespace Go.Proofs.Ytiplcfgfababaaa
open Go.RowKit

def alignTys (g : Nat) : List Ty := [.val (.pointer (some ⟨g, 0, none⟩)), .int 0 256, .val (.pointer (some ⟨g, 0, none⟩)), .int 0 256, .int 0 254236, .lits 5 (-1) 1000002, .lits 7 0 5, .val (.pointer (some ⟨g, 0, none⟩)), .int 0 7, .cell 0 5, .int 0 5, .cell (-1) 1000002, .int (-1) 1000002, .lits 7 0 17, .lits 8 0 7, .val (.pointer (some ⟨g, 0, none⟩)), .int 0 8, .cell 0 7, .int 0 7, .cell 0 17, .int 0 17, .int (-1) 1000002, .int 0 17]
set_option maxRecDepth 100000 in
set_option maxHeartbeats 4000000 in
theorem drawAlignUp_any (w : World) (a : Option Addr) (cap : Nat) (l : List Int) (h : Ints w .u8 w.heap.size a l) (hcap : l.length ≤ cap) (hlen : cap ≤ 9223372036854775807) :
    Calls Try.prog 23 #[.slice a l.length cap] w fun e w' => ∃ n to : Int, e = .returned (.tuple #[.int .i64 n, .int .i64 to]) ∧ -1 ≤ n ∧ n < 1000002 ∧ 0 ≤ to ∧ to < 17 ∧ Below w.heap.size w w' := by
  go_enter Try.func23, Try.ntmps23
  go_wp2_with fail
  refine (l20Open_any w a cap l h hcap hlen).mono ?_
  rintro e w1 ⟨rfl, hr1, hb1⟩
  clear h
  go_wp2_with fail
  refine wp_region_typed_lit (by kernel_rfl) (DrawJ w1 w.heap.size w.heap.size 0) (Typed w.heap.size (alignTys w.heap.size)) (by kernel_rfl) (fun n w h => h.up n w) ⟨hr1.mono (by omega), only_drewN (World.grownBy.refl w1 _) 1⟩ ?_ ?_
  · refine ⟨?_, ?_, ?_, ?_, ?_, ?_, ?_, ?_, ?_, ?_, ?_, ?_, ?_, ?_, ?_, ?_, ?_, ?_, ?_, ?_, ?_, ?_, ?_, trivial⟩
    · intro n a wr hn hJ ho hp
      have h := ho 4 (unwritten_dst (by kernel_rfl))
      exact wp_move' rfl (After.mk _ rfl (DrawJ.up _ _ hJ) (fun _ _ h => h) h)
    · intro n a wr hn hJ ho hp
      have h := hp ⟨0, .data⟩ (by simp) _ 7 rfl rfl rfl
      have h : a.tmps.getD 7 undef = .pointer (some ⟨w.heap.size, 0, none⟩) := h
      rw [Array.getD_eq_getD_getElem?] at h
      have hn' : n < 23 := hn
      have hr := hJ.1
      unfold Oper.wp
      simp [go_sem, h]
      refine (pick_any wr w.heap.size w.heap.size _ 256 hr (by omega) (by omega) (by omega)).mono ?_
      rintro e w' ⟨x, rfl, x0, x1, hr', hg'⟩
      exact After.mk _ rfl (hJ.pick hr' hg') (Typed.grown hg') ⟨x, rfl, x0, x1⟩
    · intro n a wr hn hJ ho hp
      have h := ho 4 (unwritten_dst (by kernel_rfl))
      exact wp_move' rfl (After.mk _ rfl (DrawJ.up _ _ hJ) (fun _ _ h => h) h)
    · intro n a wr hn hJ ho hp
      have h := hp ⟨2, .data⟩ (by simp) _ 9 rfl rfl rfl
      have h : a.tmps.getD 9 undef = .pointer (some ⟨w.heap.size, 0, none⟩) := h
      rw [Array.getD_eq_getD_getElem?] at h
      have hn' : n < 23 := hn
      have hr := hJ.1
      unfold Oper.wp
      simp [go_sem, h]
      refine (pick_any wr w.heap.size w.heap.size _ 256 hr (by omega) (by omega) (by omega)).mono ?_
      rintro e w' ⟨x, rfl, x0, x1, hr', hg'⟩
      exact After.mk _ rfl (hJ.pick hr' hg') (Typed.grown hg') ⟨x, rfl, x0, x1⟩
    · intro n a wr hn hJ ho hp
      have h := hp ⟨3, .data⟩ (by simp) _ 10 rfl rfl rfl
      obtain ⟨x, hx, x0, x1⟩ := h
      rw [Array.getD_eq_getD_getElem?] at hx
      have e : IntKind.i64.wrap (x * 997) = x * 997 := IntWalk.i64_in _ (by omega)
      unfold Oper.wp
      simp [go_sem, hx]
      exact After.mk _ rfl (DrawJ.up _ _ hJ) (fun _ _ h => h) ⟨_, rfl, by rw [e]; omega, by rw [e]; omega⟩
    · intro n a wr hn hJ ho hp
      have h8 := hp ⟨1, .data⟩ (by simp) _ 8 rfl rfl rfl
      obtain ⟨x8, hx8, lo8, hi8⟩ := h8
      rw [Array.getD_eq_getD_getElem?] at hx8
      have h11 := hp ⟨4, .data⟩ (by simp) _ 11 rfl rfl rfl
      obtain ⟨x11, hx11, lo11, hi11⟩ := h11
      rw [Array.getD_eq_getD_getElem?] at hx11
      have hlt := hJ.1.lt
      unfold Oper.wp
      simp [go_sem, hx8, hx11]
      exact After.mk _ rfl (hJ.alloc _) (Typed.grown (World.grownBy_alloc wr _ _)) ⟨wr.heap.size, _, [x8, x11, 1000000, 1000001, -1], rfl, hlt, Has.new _ _ _, rfl, rfl, by intro z hz; simp at hz; omega⟩
    · intro n a wr hn hJ ho hp
      have hlt := hJ.1.lt
      unfold Oper.wp
      simp [go_sem]
      exact After.mk _ rfl (hJ.alloc _) (Typed.grown (World.grownBy_alloc wr _ _)) ⟨wr.heap.size, _, [0, 0, 0, 1, 2, 3, 4], rfl, hlt, Has.new _ _ _, rfl, rfl, by decide⟩
    · intro n a wr hn hJ ho hp
      have h := ho 4 (unwritten_dst (by kernel_rfl))
      exact wp_move' rfl (After.mk _ rfl (DrawJ.up _ _ hJ) (fun _ _ h => h) h)
    · intro n a wr hn hJ ho hp
      have h := hp ⟨7, .data⟩ (by simp) _ 14 rfl rfl rfl
      have h : a.tmps.getD 14 undef = .pointer (some ⟨w.heap.size, 0, none⟩) := h
      rw [Array.getD_eq_getD_getElem?] at h
      have hn' : n < 23 := hn
      have hr := hJ.1
      unfold Oper.wp
      simp [go_sem, h]
      refine (pick_any wr w.heap.size w.heap.size _ 7 hr (by omega) (by omega) (by omega)).mono ?_
      rintro e w' ⟨x, rfl, x0, x1, hr', hg'⟩
      exact After.mk _ rfl (hJ.pick hr' hg') (Typed.grown hg') ⟨x, rfl, x0, x1⟩
    · intro n a wr hn hJ ho hp
      have hs := hp ⟨6, .data⟩ (by simp) _ 13 rfl rfl rfl
      have h := hp ⟨8, .data⟩ (by simp) _ 15 rfl rfl rfl
      obtain ⟨b, cs, zs, hs, hgb, hh, hcs, hzl, hz⟩ := hs
      obtain ⟨x, hx, x0, x1⟩ := h
      obtain ⟨i, rfl⟩ := Int.eq_ofNat_of_zero_le x0
      obtain ⟨z, hc, z0, z1⟩ := lit_read zs (0) (5) hh hcs hz i (by omega)
      rw [Array.getD_eq_getD_getElem?] at hs hx
      have hi' : (i : Int) < 7 := by omega
      unfold Oper.wp
      simp [go_sem, hs, hx, hi']
      exact After.mk _ rfl (DrawJ.up _ _ hJ) (fun _ _ h => h) ⟨b, i, z, rfl, hgb, hc, z0, z1⟩
    · intro n a wr hn hJ ho hp
      have h := hp ⟨9, .data⟩ (by simp) _ 16 rfl rfl rfl
      obtain ⟨b, i, z, hx, hgb, hc, z0, z1⟩ := h
      rw [Array.getD_eq_getD_getElem?] at hx
      unfold Oper.wp
      simp [go_sem, hx, hc]
      exact After.mk _ rfl (DrawJ.up _ _ hJ) (fun _ _ h => h) ⟨z, rfl, z0, z1⟩
    · intro n a wr hn hJ ho hp
      have hs := hp ⟨5, .data⟩ (by simp) _ 12 rfl rfl rfl
      have h := hp ⟨10, .data⟩ (by simp) _ 17 rfl rfl rfl
      obtain ⟨b, cs, zs, hs, hgb, hh, hcs, hzl, hz⟩ := hs
      obtain ⟨x, hx, x0, x1⟩ := h
      obtain ⟨i, rfl⟩ := Int.eq_ofNat_of_zero_le x0
      obtain ⟨z, hc, z0, z1⟩ := lit_read zs (-1) (1000002) hh hcs hz i (by omega)
      rw [Array.getD_eq_getD_getElem?] at hs hx
      have hi' : (i : Int) < 5 := by omega
      unfold Oper.wp
      simp [go_sem, hs, hx, hi']
      exact After.mk _ rfl (DrawJ.up _ _ hJ) (fun _ _ h => h) ⟨b, i, z, rfl, hgb, hc, z0, z1⟩
    · intro n a wr hn hJ ho hp
      have h := hp ⟨11, .data⟩ (by simp) _ 18 rfl rfl rfl
      obtain ⟨b, i, z, hx, hgb, hc, z0, z1⟩ := h
      rw [Array.getD_eq_getD_getElem?] at hx
      unfold Oper.wp
      simp [go_sem, hx, hc]
      exact After.mk _ rfl (DrawJ.up _ _ hJ) (fun _ _ h => h) ⟨z, rfl, z0, z1⟩
    · intro n a wr hn hJ ho hp
      have hlt := hJ.1.lt
      unfold Oper.wp
      simp [go_sem]
      exact After.mk _ rfl (hJ.alloc _) (Typed.grown (World.grownBy_alloc wr _ _)) ⟨wr.heap.size, _, [1, 2, 4, 8, 0, 3, 16], rfl, hlt, Has.new _ _ _, rfl, rfl, by decide⟩
    · intro n a wr hn hJ ho hp
      have hlt := hJ.1.lt
      unfold Oper.wp
      simp [go_sem]
      exact After.mk _ rfl (hJ.alloc _) (Typed.grown (World.grownBy_alloc wr _ _)) ⟨wr.heap.size, _, [0, 1, 2, 3, 3, 4, 5, 6], rfl, hlt, Has.new _ _ _, rfl, rfl, by decide⟩
    · intro n a wr hn hJ ho hp
      have h := ho 4 (unwritten_dst (by kernel_rfl))
      exact wp_move' rfl (After.mk _ rfl (DrawJ.up _ _ hJ) (fun _ _ h => h) h)
    · intro n a wr hn hJ ho hp
      have h := hp ⟨15, .data⟩ (by simp) _ 22 rfl rfl rfl
      have h : a.tmps.getD 22 undef = .pointer (some ⟨w.heap.size, 0, none⟩) := h
      rw [Array.getD_eq_getD_getElem?] at h
      have hn' : n < 23 := hn
      have hr := hJ.1
      unfold Oper.wp
      simp [go_sem, h]
      refine (pick_any wr w.heap.size w.heap.size _ 8 hr (by omega) (by omega) (by omega)).mono ?_
      rintro e w' ⟨x, rfl, x0, x1, hr', hg'⟩
      exact After.mk _ rfl (hJ.pick hr' hg') (Typed.grown hg') ⟨x, rfl, x0, x1⟩
    · intro n a wr hn hJ ho hp
      have hs := hp ⟨14, .data⟩ (by simp) _ 21 rfl rfl rfl
      have h := hp ⟨16, .data⟩ (by simp) _ 23 rfl rfl rfl
      obtain ⟨b, cs, zs, hs, hgb, hh, hcs, hzl, hz⟩ := hs
      obtain ⟨x, hx, x0, x1⟩ := h
      obtain ⟨i, rfl⟩ := Int.eq_ofNat_of_zero_le x0
      obtain ⟨z, hc, z0, z1⟩ := lit_read zs (0) (7) hh hcs hz i (by omega)
      rw [Array.getD_eq_getD_getElem?] at hs hx
      have hi' : (i : Int) < 8 := by omega
      unfold Oper.wp
      simp [go_sem, hs, hx, hi']
      exact After.mk _ rfl (DrawJ.up _ _ hJ) (fun _ _ h => h) ⟨b, i, z, rfl, hgb, hc, z0, z1⟩
    · intro n a wr hn hJ ho hp
      have h := hp ⟨17, .data⟩ (by simp) _ 24 rfl rfl rfl
      obtain ⟨b, i, z, hx, hgb, hc, z0, z1⟩ := h
      rw [Array.getD_eq_getD_getElem?] at hx
      unfold Oper.wp
      simp [go_sem, hx, hc]
      exact After.mk _ rfl (DrawJ.up _ _ hJ) (fun _ _ h => h) ⟨z, rfl, z0, z1⟩
    · intro n a wr hn hJ ho hp
      have hs := hp ⟨13, .data⟩ (by simp) _ 20 rfl rfl rfl
      have h := hp ⟨18, .data⟩ (by simp) _ 25 rfl rfl rfl
      obtain ⟨b, cs, zs, hs, hgb, hh, hcs, hzl, hz⟩ := hs
      obtain ⟨x, hx, x0, x1⟩ := h
      obtain ⟨i, rfl⟩ := Int.eq_ofNat_of_zero_le x0
      obtain ⟨z, hc, z0, z1⟩ := lit_read zs (0) (17) hh hcs hz i (by omega)
      rw [Array.getD_eq_getD_getElem?] at hs hx
      have hi' : (i : Int) < 7 := by omega
      unfold Oper.wp
      simp [go_sem, hs, hx, hi']
      exact After.mk _ rfl (DrawJ.up _ _ hJ) (fun _ _ h => h) ⟨b, i, z, rfl, hgb, hc, z0, z1⟩
    · intro n a wr hn hJ ho hp
      have h := hp ⟨19, .data⟩ (by simp) _ 26 rfl rfl rfl
      obtain ⟨b, i, z, hx, hgb, hc, z0, z1⟩ := h
      rw [Array.getD_eq_getD_getElem?] at hx
      unfold Oper.wp
      simp [go_sem, hx, hc]
      exact After.mk _ rfl (DrawJ.up _ _ hJ) (fun _ _ h => h) ⟨z, rfl, z0, z1⟩
    · intro n a wr hn hJ ho hp
      have h := hp ⟨12, .data⟩ (by simp) _ 19 rfl rfl rfl
      exact wp_assign' rfl (After.mk _ rfl (DrawJ.up _ _ hJ) (fun _ _ h => h) h)
    · intro n a wr hn hJ ho hp
      have h := hp ⟨20, .data⟩ (by simp) _ 27 rfl rfl rfl
      exact wp_assign' rfl (After.mk _ rfl (DrawJ.up _ _ hJ) (fun _ _ h => h) h)
  · intro a' w' hgo
    obtain ⟨n, hn, n0, n1⟩ := hgo.done 21 _ 2 rfl rfl rfl
    obtain ⟨to, hto, t0, t1⟩ := hgo.done 22 _ 3 rfl rfl rfl
    have hd := hgo.defers
    have hb := hb1.grown hgo.world.2 hb1.size (by intro q hq; injection hq with hq; omega)
    obtain ⟨t, d⟩ := a'
    have ht : t = #[t.getD 0 undef, t.getD 1 undef, t.getD 2 undef, t.getD 3 undef, t.getD 4 undef, t.getD 5 undef, t.getD 6 undef, t.getD 7 undef, t.getD 8 undef, t.getD 9 undef, t.getD 10 undef, t.getD 11 undef, t.getD 12 undef, t.getD 13 undef, t.getD 14 undef, t.getD 15 undef, t.getD 16 undef, t.getD 17 undef, t.getD 18 undef, t.getD 19 undef, t.getD 20 undef, t.getD 21 undef, t.getD 22 undef, t.getD 23 undef, t.getD 24 undef, t.getD 25 undef, t.getD 26 undef, t.getD 27 undef] := (arr_list t 28 hgo.size).trans (by rfl)
    have hd' : d = [] := hd
    have hn' : t.getD 2 undef = .int .i64 n := hn
    have hto' : t.getD 3 undef = .int .i64 to := hto
    rw [hn', hto'] at ht
    clear hn hto hn' hto' hd hgo
    subst hd'
    rw [ht]
    have HT := hidden ht
    clear ht
    go_wp2
    go_ret2
    exact ⟨n, to, rfl, n0, n1, t0, t1, hb⟩

end Go.Proofs.Ytiplcfgfababaaa

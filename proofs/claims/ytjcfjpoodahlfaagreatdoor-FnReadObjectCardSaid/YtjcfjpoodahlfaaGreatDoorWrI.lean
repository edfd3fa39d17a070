import Derived.Test.YtjcfjpoodahlfaaGreatDoorWrP
import Derived.Test.YtjcfjpoodahlfaaGreatDoorHdrI
import Derived.Test.YtjcfjpoodahlfaaGreatDoorPlcI
import Derived.Test.YtjcfjpoodahlfaaGreatDoorObI
namespace Go.Proofs.YtjcfjpoodahlfaaGreatDoor
open Go.RowKit
def Keeps (W W' : World) : Prop := W.heap.size ≤ W'.heap.size ∧ ∀ b t cs, t ≠ 5 → t ≠ 44 → Has W b t cs → Has W' b t cs
theorem Keeps.refl (W : World) : Keeps W W := ⟨Nat.le_refl _, fun _ _ _ _ _ h => h⟩
theorem Keeps.trans {a b c : World} (h : Keeps a b) (k : Keeps b c) : Keeps a c := ⟨Nat.le_trans h.1 k.1, fun q t cs h1 h2 h3 => k.2 q t cs h1 h2 (h.2 q t cs h1 h2 h3)⟩
theorem Keeps.below {W W' : World} (h : Below W.heap.size W W') : Keeps W W' := ⟨h.size, fun _ _ _ _ _ hh => hh.below h hh.lt⟩
theorem Keeps.alloc {W W' : World} (h : Keeps W W') (o : Obj) : Keeps W (W'.alloc o) := h.trans (.below ((Below.refl _ _).alloc (Nat.le_refl _) _))
structure Bld (wB : World) (tv : Value) (L : List Int) (W : World) : Prop where
  below : Below wB.heap.size wB W
  row : ∃ v, Has W wB.heap.size 44 #[tv, v] ∧ RowI W (wB.heap.size + 1) v L.length L
section
variable {wB W W' : World} {tv : Value} {L : List Int}
theorem Bld.lt (h : Bld wB tv L W) : wB.heap.size < W.heap.size := by obtain ⟨v, hh, _⟩ := h.row; exact hh.lt
theorem Bld.call (h : Bld wB tv L W) (hb : Below W.heap.size W W') : Bld wB tv L W' :=
  ⟨h.below.trans (hb.mono h.below.size), by obtain ⟨v, hh, hr⟩ := h.row; exact ⟨v, hh.below hb hh.lt, hr.only hb⟩⟩
theorem Bld.alloc (h : Bld wB tv L W) (o : Obj) : Bld wB tv L (W.alloc o) := h.call ((Below.refl _ _).alloc (Nat.le_refl _) _)
theorem Bld.drew (h : Bld wB tv L W) : Bld wB tv L W.drew := h.call ⟨rfl, rfl, rfl, Nat.le_refl _, fun _ _ => rfl⟩
theorem Bld.table (h : Bld wB tv L W) : W.cell? ⟨wB.heap.size, 0, none⟩ = some tv := by obtain ⟨v, hh, _⟩ := h.row; exact hh.cell 0
theorem Bld.new (wB : World) (tv : Value) : Bld wB tv [] (wB.alloc (.cells #[tv, .slice none 0 0] 44)) :=
  ⟨(Below.refl _ _).alloc (Nat.le_refl _) _, _, Has.new _ _ _, World.ownsRow_nil _ _ _ _⟩
end
def Built (wB W : World) (tv : Value) (L : List Int) (e : Ending) (W' : World) : Prop := e = .returned (.tuple #[]) ∧ Bld wB tv L W' ∧ Keeps W W'
theorem RowI.slice {W : World} {base N : Nat} {v : Value} {L : List Int} (h : RowI W base v N L) : ∃ a c, v = .slice a N c := by
  rcases h.2 with ⟨rfl, h0⟩ | ⟨g, cap, cur, e, _⟩
  · exact ⟨none, 0, by rw [h0]⟩
  · exact ⟨_, _, e⟩
set_option maxRecDepth 100000 in
theorem putBytes_bld (wB W : World) (tv : Value) (L : List Int) (h : Bld wB tv L W) (ad : Option Addr) (m c : Nat) (l : List Int) (hm : m = l.length) (hi : Ints W .u8 W.heap.size ad l) (h63 : L.length + m ≤ 1000000) :
    Calls Tryz.prog 31 #[.pointer (some ⟨wB.heap.size, 0, none⟩), .slice ad m c] W (Built wB W tv (L ++ l)) := by
  obtain ⟨hbel, v, hh, hrow⟩ := h
  obtain ⟨N, hN⟩ : ∃ N, L.length = N := ⟨_, rfl⟩
  obtain ⟨bb, hbb⟩ : ∃ bb, wB.heap.size = bb := ⟨_, rfl⟩
  rw [hN, hbb] at hrow
  rw [hN] at h63
  rw [hbb] at hh ⊢
  have c0 := hh.cell 0
  have c1 : W.cell? ⟨bb, 1, none⟩ = some v := hh.cell 1
  have hlt := hh.lt
  have HBB := hidden hbb
  have HBEL := hidden hbel
  have HN := hidden hN
  have HH := hidden hh
  have HROW := hidden hrow
  have HI := hidden hi
  have HM := hidden hm
  clear hN hbb hbel hh hrow hi hm
  go_enter Tryz.func31, Tryz.ntmps31
  go_wp2_with (at_builtin; refine wpList_append_ints _ rfl _ _ rfl (bb + 1) v N L rfl HROW.out ad m c W.heap.size l HM.out rfl HI.out h63 (by omega) ?_)
  intro v' w4 hrow4 hg4
  obtain ⟨av, cv, rfl⟩ := hrow4.slice
  have hh4 : Has w4 bb 44 #[tv, v] := HH.out.grown hg4 (HROW.out.away HH.out (by decide))
  have hk4 : Keeps W w4 := ⟨hg4.size, fun b t cs h1 h2 h3 => h3.grown hg4 (HROW.out.away h3 h1)⟩
  have hb4 : Below bb W w4 := (Below.refl _ _).grown hg4 (by omega) (fun j hj => by have := (HROW.out.lt j hj).1; omega)
  have q1 : w4.cell? ⟨bb, 1, none⟩ = some v := hh4.cell 1
  have f1 : w4.frozen? ⟨bb, 1, none⟩ = false := hh4.free 1
  have HF : Hid (Built wB W tv (L ++ l) (.returned (.tuple #[])) (w4.setCell ⟨bb, 1, none⟩ (.slice av (N + m) cv))) := by
    refine ⟨rfl, ⟨?_, .slice av (N + m) cv, ?_, ?_⟩, ?_⟩
    · rw [HBB.out]
      exact (HBB.out ▸ HBEL.out : Below bb wB W).trans (hb4.setCell (Nat.le_refl _) _)
    · have := hh4.put 1 (.slice av (N + m) cv)
      rw [HBB.out]
      simpa using this
    · have hne : some bb ≠ (Value.slice av (N + m) cv).ownBlock := hrow4.away hh4 (by decide)
      rw [HBB.out, List.length_append, HN.out, ← HM.out]
      exact hrow4.kept (only_put' (g := bb) 1 (.slice av (N + m) cv)) (Or.inr hne.symm)
    · exact hk4.trans ⟨by simp, fun b t cs h1 h2 h3 => h3.away (fun e => by subst e; unfold Has at h3; have := hh4; unfold Has at this; rw [h3] at this; injection this with this; injection this with _ this; exact h2 this) _⟩
  clear c0 c1 HBB HBEL HN HH HROW HI HM hk4 hb4 hrow4 hg4 h63
  go_wp2_with fail
  go_end0
  exact HF.out
def putAllN (k : Int) (ns : List Int) : List Int := ns.flatMap fun x => putList x k
theorem putAllN_short (k : Int) : ∀ ns : List Int, (putAllN k ns).length ≤ 4 * ns.length
  | [] => by simp [putAllN]
  | x :: r => by
    have h1 := putAllN_short k r
    have h2 := putList_short x k
    unfold putAllN at h1 ⊢
    rw [List.flatMap_cons, List.length_append, List.length_cons]
    omega
theorem putAllN_snoc {k : Int} {ns : List Int} {j : Nat} {x : Int} (h : ns[j]? = some x) : putAllN k (ns.take (j + 1)) = putAllN k (ns.take j) ++ putList x k := flat_snoc _ h
set_option maxRecDepth 100000 in
set_option maxHeartbeats 1000000 in
theorem putNumbers_bld (wB W : World) (tv : Value) (L : List Int) (h : Bld wB tv L W) (k : Int) (g c m : Nat) (ns : List Int) (hm : ns.length = m) (hg : Has W g 3 (ns.map (Value.int .i64)).toArray) (h63 : L.length + 4 * m ≤ 1000000) :
    Calls Tryz.prog 65 #[.pointer (some ⟨wB.heap.size, 0, none⟩), .int .i64 k, .slice (some ⟨g, 0, none⟩) m c] W (Built wB W tv (L ++ putAllN k ns)) := by
  have H := hidden h
  have HG := hidden hg
  have HM := hidden hm
  have H63 := hidden h63
  have hm6 : m ≤ 250000 := by omega
  clear h hg hm h63
  go_enter Tryz.func65, Tryz.ntmps65
  go_wp2_with fail
  go_loopw [10] (fun i wr => ∃ j : Nat, i = .int .i64 j ∧ j ≤ m ∧ Hid (Bld wB tv (L ++ putAllN k (ns.take j)) wr) ∧ Hid (Keeps W wr)) (fun i _ => m - (intOf i).toNat)
  case atStart => exact ⟨0, rfl, Nat.zero_le _, (by show Bld _ _ _ _; simpa [putAllN] using H.out), Keeps.refl _⟩
  case round =>
    obtain ⟨j, rfl, hj, hb, hk⟩ := hrel
    by_cases hlt : j < m
    · have hi : (j : Int) < (m : Int) := by omega
      have hjl : j < ns.length := by rw [HM.out]; exact hlt
      obtain ⟨x, hx⟩ : ∃ x, ns[j] = x := ⟨_, rfl⟩
      have hx2 : ns[j]? = some x := by rw [List.getElem?_eq_getElem hjl, hx]
      have hgr := hk.out.2 g 3 _ (by decide) (by decide) HG.out
      have q0 : wr.cell? ⟨g, j, none⟩ = some (.int .i64 x) := by rw [hgr.cell]; simp [hx2]
      have HN := hidden (putAllN_snoc (k := k) hx2)
      have hsh : (putAllN k (ns.take j)).length ≤ 4 * j := by
        have := putAllN_short k (ns.take j)
        rw [List.length_take] at this
        omega
      obtain ⟨nb, hnb⟩ : ∃ nb, putList x k = nb := ⟨_, rfl⟩
      obtain ⟨mb, hmb⟩ : ∃ mb, nb.length = mb := ⟨_, rfl⟩
      have hmb4 : mb ≤ 4 := by rw [← hmb, ← hnb]; exact putList_short _ _
      rw [hnb] at HN
      have HPN := hidden (fun W => putNumber_ints x k mb nb hnb hmb W)
      have HMB := hidden hmb
      have H63' : Hid ((L ++ putAllN k (ns.take j)).length + mb ≤ 1000000) := by
        show _ ≤ _
        have := H63.out
        rw [List.length_append]
        omega
      clear hx hx2 hnb hmb hjl hgr hsh hmb4
      go_wp2_with fail
      refine (HPN.out _).mono ?_
      clear HPN
      rintro e w1 ⟨ad, c1, rfl, hi1, hb1⟩
      have HPB := hidden (putBytes_bld wB w1 tv _ (hb.out.call hb1) ad mb c1 nb HMB.out.symm hi1 H63'.out)
      have hk1 := hidden (hk.out.trans (.below hb1))
      clear hi1 hb1 hb hk q0 H63'
      go_wp2_with fail
      refine HPB.out.mono ?_
      clear HPB
      rintro e w2 ⟨rfl, hb2, hk2⟩
      have HB2 : Hid (Bld wB tv (L ++ putAllN k (ns.take (j + 1))) w2) := by show Bld _ _ _ _; rw [HN.out, ← List.append_assoc]; exact hb2
      have HK2 := hidden (hk1.out.trans hk2)
      clear hb2 hk2 hk1 HN
      go_wp2_with fail
      go_roundw
      case rel => exact ⟨j + 1, by go_num, by omega, HB2, HK2⟩
      case measure => simp [intOf]; omega
    · have hi : ¬ (j : Int) < (m : Int) := by omega
      have HF : Hid (Built wB W tv (L ++ putAllN k ns) (.returned (.tuple #[])) wr) := by
        have e : ns.take j = ns := List.take_of_length_le (by rw [HM.out]; omega)
        have := hb.out
        rw [e] at this
        exact ⟨rfl, this, hk.out⟩
      clear hb hk
      go_wp2_with fail
      go_end0
      exact HF.out
structure TabV (wB : World) (ta : Option Addr) (K tc : Nat) (TT : List Int) : Prop where
  len : TT.length = K
  ints : Ints wB .u8 wB.heap.size ta TT
  cap : K ≤ tc
  max : tc ≤ maxLen
set_option maxRecDepth 100000 in
theorem putName_bld (wB W : World) (ta : Option Addr) (K tc : Nat) (TT L : List Int) (ht : TabV wB ta K tc TT) (h : Bld wB (.slice ta K tc) L W) (s : ByteArray) (hs : s.size ≤ maxLen) (h63 : L.length + 4 ≤ 1000000) :
    Calls Tryz.prog 64 #[.pointer (some ⟨wB.heap.size, 0, none⟩), .string s] W (Built wB W (.slice ta K tc) (L ++ putList (placeIn TT s) 2)) := by
  have c0 := h.table
  have HP : Hid (Calls Tryz.prog 98 #[.slice ta K tc, .string s] W fun e w' => e = .returned (.int .i64 (placeIn TT s)) ∧ Below W.heap.size W w') := by
    have := placeOf_any W wB.heap.size ta tc TT (ht.ints.below h.below) (by rw [ht.len]; exact ht.cap) (by have := ht.max; unfold maxLen at this; omega) s hs
    rw [ht.len] at this
    unfold placeIn
    rw [ht.len]
    exact this.mono fun e w' h => ⟨h.1, h.2 ▸ Below.refl _ _⟩
  have H := hidden h
  have H63 := hidden h63
  have hlt := h.lt
  obtain ⟨p, hp⟩ : ∃ p, placeIn TT s = p := ⟨_, rfl⟩
  rw [hp] at HP ⊢
  clear h ht hp hs
  go_enter Tryz.func64, Tryz.ntmps64
  go_wp2_with fail
  refine HP.out.mono ?_
  clear HP
  rintro e w1 ⟨rfl, hb1⟩
  have HPN := hidden (putNumbers_bld wB (w1.alloc (.cells #[.int .i64 p] 3)) (.slice ta K tc) L ((H.out.call hb1).alloc _) 2 w1.heap.size 1 1 [p] rfl (Has.new _ _ _) (by have := H63.out; omega))
  have HK := hidden ((Keeps.below hb1).alloc (.cells #[.int .i64 p] 3))
  clear hb1 c0 H
  go_wp2_with fail
  refine HPN.out.mono ?_
  clear HPN
  rintro e w2 ⟨rfl, hb2, hk2⟩
  have HF : Hid (Built wB W (.slice ta K tc) (L ++ putList p 2) (.returned (.tuple #[])) w2) := ⟨rfl, by simpa [putAllN] using hb2, HK.out.trans hk2⟩
  clear hb2 hk2 HK
  go_wp2_with fail
  go_end0
  exact HF.out
structure JSec (wB W0 : World) (tv : Value) (L nb : List Int) (ob : Nat) (t : TypeId) (cs : Array Value) (long : Int) (ns : List Int) (k : Nat) (W : World) (vals : Nat → Value) : Prop where
  keeps : Keeps W0 W
  below : Below wB.heap.size wB W
  has : Has W ob t cs
  bld : k ≤ 2 → Bld wB tv L W
  fix : vals 0 = .int .i64 long
  arr : k = 2 → ∃ g, vals 1 = .slice (some ⟨g, 0, none⟩) 4 4 ∧ Has W g 3 (ns.map (Value.int .i64)).toArray
  fin : k = 3 → Bld wB tv (L ++ nb) W
set_option maxRecDepth 100000 in
set_option maxHeartbeats 2000000 in
theorem putSection_bld (wB W0 : World) (ta : Option Addr) (K tc : Nat) (TT L : List Int) (ht : TabV wB ta K tc TT) (h : Bld wB (.slice ta K tc) L W0) (nm : ByteArray) (kd al sz long : Int) (a1 a2 : Option Addr) (nb nf c1 c2 : Nat) (hs : nm.size ≤ maxLen) (_ : nf ≤ 9223372036854775807)
    (hsz : ∀ W, Below wB.heap.size wB W → Calls Tryz.prog 66 #[.agg #[.string nm, .int .i64 kd, .int .i64 al, .slice a1 nb c1, .int .i64 sz, .slice a2 nf c2]] W fun e w' => e = .returned (.int .i64 long) ∧ Below W.heap.size W w') (h63 : L.length + 20 ≤ 1000000) :
    Calls Tryz.prog 28 #[.pointer (some ⟨wB.heap.size, 0, none⟩), .agg #[.string nm, .int .i64 kd, .int .i64 al, .slice a1 nb c1, .int .i64 sz, .slice a2 nf c2]] W0 (Built wB W0 (.slice ta K tc) (L ++ (putList (placeIn TT nm) 2 ++ putAllN 1 [kd, al, long, (nf : Int)]))) := by
  have HSZ := hidden hsz
  have hh0 : Has (W0.alloc (.cells #[.string nm, .int .i64 kd, .int .i64 al, .slice a1 nb c1, .int .i64 sz, .slice a2 nf c2] 48)) W0.heap.size 48 #[.string nm, .int .i64 kd, .int .i64 al, .slice a1 nb c1, .int .i64 sz, .slice a2 nf c2] := Has.new _ _ _
  have n0 := hh0.cell 0
  have HPN := hidden (putName_bld wB (W0.alloc (.cells #[.string nm, .int .i64 kd, .int .i64 al, .slice a1 nb c1, .int .i64 sz, .slice a2 nf c2] 48)) ta K tc TT L ht (h.alloc _) nm hs (by omega))
  obtain ⟨PN, hPN⟩ : ∃ PN, putList (placeIn TT nm) 2 = PN := ⟨_, rfl⟩
  have hPNs : PN.length ≤ 4 := by rw [← hPN]; exact putList_short _ _
  rw [hPN] at HPN ⊢
  have H63 : Hid ((L ++ PN).length + 4 * 4 ≤ 1000000) := by show _ ≤ _; rw [List.length_append]; omega
  have HH := hidden hh0
  have hkeep0 := hidden ((Keeps.refl W0).alloc (.cells #[.string nm, .int .i64 kd, .int .i64 al, .slice a1 nb c1, .int .i64 sz, .slice a2 nf c2] 48))
  clear h ht hs hsz h63 hPN hPNs hh0
  go_enter Tryz.func28, Tryz.ntmps28
  go_wp2_with fail
  refine HPN.out.mono ?_
  clear HPN
  rintro e w1 ⟨rfl, hb1, hk1⟩
  have hJ0 : Hid (JSec wB W0 (.slice ta K tc) (L ++ PN) (putAllN 1 [kd, al, long, (nf : Int)]) W0.heap.size 48 #[.string nm, .int .i64 kd, .int .i64 al, .slice a1 nb c1, .int .i64 sz, .slice a2 nf c2] long [kd, al, long, (nf : Int)] 0 w1.drew fun _ => .int .i64 long) := ⟨(hkeep0.out.trans hk1).trans (.below ⟨rfl, rfl, rfl, Nat.le_refl _, fun _ _ => rfl⟩), hb1.drew.below, (hk1.2 _ _ _ (by decide) (by decide) HH.out).drew, fun _ => hb1.drew, rfl, fun h => absurd h (by decide), fun h => absurd h (by decide)⟩
  clear hb1 hk1 HH hkeep0 n0
  go_upto_region 2 with fail
  refine wp_region_chain (m := 3) (js := [.quiet (.pointer (some ⟨wB.heap.size, 0, none⟩)) 3, .quiet (.pointer (some ⟨W0.heap.size, 1, none⟩)) 3, .quiet (.int .i64 kd) 3, .quiet (.pointer (some ⟨W0.heap.size, 2, none⟩)) 3, .quiet (.int .i64 al) 3, .quiet (.agg #[.string nm, .int .i64 kd, .int .i64 al, .slice a1 nb c1, .int .i64 sz, .slice a2 nf c2]) 3, .chain 0, .quiet (.pointer (some ⟨W0.heap.size, 5, none⟩)) 3, .quiet (.slice a2 nf c2) 3, .quiet (.int .i64 nf) 3, .chain 1, .chain 2]) (by kernel_rfl) (JSec wB W0 (.slice ta K tc) (L ++ PN) (putAllN 1 [kd, al, long, (nf : Int)]) W0.heap.size 48 #[.string nm, .int .i64 kd, .int .i64 al, .slice a1 nb c1, .int .i64 sz, .slice a2 nf c2] long [kd, al, long, (nf : Int)]) (by kernel_rfl) (by kernel_rfl) ⟨_, hJ0.out⟩ (fun vals => ?_) ?_
  · show SeqW _ _ _ _ _ _ _
    iterate 2
      refine ⟨fun kk hkk W hW => ?_, ?_⟩
      · unfold Oper.wp
        simp [go_sem]
        try exact ⟨_, rfl, rfl⟩
      simp only [Act.put, pA, pB, pC]
    refine ⟨fun kk hkk W hW => ?_, ?_⟩
    · have q1 := (hW.has.cell 1 : W.cell? ⟨W0.heap.size, 1, none⟩ = some (.int .i64 kd))
      unfold Oper.wp
      simp [go_sem, q1]
      try exact ⟨_, rfl, rfl⟩
    simp only [Act.put, pA, pB, pC]
    refine ⟨fun kk hkk W hW => ?_, ?_⟩
    · unfold Oper.wp
      simp [go_sem]
      try exact ⟨_, rfl, rfl⟩
    simp only [Act.put, pA, pB, pC]
    refine ⟨fun kk hkk W hW => ?_, ?_⟩
    · have q1 := (hW.has.cell 2 : W.cell? ⟨W0.heap.size, 2, none⟩ = some (.int .i64 al))
      unfold Oper.wp
      simp [go_sem, q1]
      try exact ⟨_, rfl, rfl⟩
    simp only [Act.put, pA, pB, pC]
    refine ⟨fun kk hkk W hW => ?_, ?_⟩
    · have q0 := (hW.has.cell 0 : W.cell? ⟨W0.heap.size, 0, none⟩ = some (.string nm))
      have q1 := (hW.has.cell 1 : W.cell? ⟨W0.heap.size, 1, none⟩ = some (.int .i64 kd))
      have q2 := (hW.has.cell 2 : W.cell? ⟨W0.heap.size, 2, none⟩ = some (.int .i64 al))
      have q3 := (hW.has.cell 3 : W.cell? ⟨W0.heap.size, 3, none⟩ = some (.slice a1 nb c1))
      have q4 := (hW.has.cell 4 : W.cell? ⟨W0.heap.size, 4, none⟩ = some (.int .i64 sz))
      have q5 := (hW.has.cell 5 : W.cell? ⟨W0.heap.size, 5, none⟩ = some (.slice a2 nf c2))
      unfold Oper.wp
      simp [go_sem, q0, q1, q2, q3, q4, q5]
      try exact ⟨_, rfl, rfl⟩
    simp only [Act.put, pA, pB, pC]
    refine ⟨fun W hW => ?_, ?_⟩
    · unfold Oper.wp
      simp [go_sem]
      refine (HSZ.out W hW.below).mono ?_
      rintro e w' ⟨rfl, hb⟩
      have hN : JSec wB W0 (.slice ta K tc) (L ++ PN) (putAllN 1 [kd, al, long, (nf : Int)]) W0.heap.size 48 #[.string nm, .int .i64 kd, .int .i64 al, .slice a1 nb c1, .int .i64 sz, .slice a2 nf c2] long [kd, al, long, (nf : Int)] 1 w' (upd vals 0 (.int .i64 long)) := ⟨hW.keeps.trans (.below hb), hW.below.trans (hb.mono hW.below.size), hW.has.below hb hW.has.lt, fun _ => (hW.bld (by decide)).call hb, rfl, fun h => absurd h (by decide), fun h => absurd h (by decide)⟩
      first | exact hN | exact ⟨_, rfl, hN⟩
    simp only [Act.put, pA, pB, pC]
    refine ⟨fun kk hkk W hW => ?_, ?_⟩
    · unfold Oper.wp
      simp [go_sem]
      try exact ⟨_, rfl, rfl⟩
    simp only [Act.put, pA, pB, pC]
    refine ⟨fun kk hkk W hW => ?_, ?_⟩
    · have q1 := (hW.has.cell 5 : W.cell? ⟨W0.heap.size, 5, none⟩ = some (.slice a2 nf c2))
      unfold Oper.wp
      simp [go_sem, q1]
      try exact ⟨_, rfl, rfl⟩
    simp only [Act.put, pA, pB, pC]
    refine ⟨fun kk hkk W hW => ?_, ?_⟩
    · unfold Oper.wp
      simp [go_sem]
      try exact ⟨_, rfl, rfl⟩
    simp only [Act.put, pA, pB, pC]
    refine ⟨fun W hW => ?_, ?_⟩
    · have hN : JSec wB W0 (.slice ta K tc) (L ++ PN) (putAllN 1 [kd, al, long, (nf : Int)]) W0.heap.size 48 #[.string nm, .int .i64 kd, .int .i64 al, .slice a1 nb c1, .int .i64 sz, .slice a2 nf c2] long [kd, al, long, (nf : Int)] 2 (W.alloc (.cells #[.int .i64 kd, .int .i64 al, .int .i64 long, .int .i64 nf] 3)) (upd vals 1 (.slice (some ⟨W.heap.size, 0, none⟩) 4 4)) := ⟨hW.keeps.alloc _, hW.below.alloc hW.below.size _, hW.has.alloc _, fun _ => (hW.bld (by decide)).alloc _, hW.fix, fun _ => ⟨W.heap.size, rfl, Has.new _ _ _⟩, fun h => absurd h (by decide)⟩
      have q1 := hW.fix
      unfold Oper.wp
      simp [go_sem, q1]
      first | exact hN | exact ⟨_, rfl, hN⟩
    simp only [Act.put, pA, pB, pC]
    refine ⟨fun W hW => ?_, trivial⟩
    obtain ⟨g, hv, hg⟩ := hW.arr rfl
    unfold Oper.wp
    simp [go_sem, hv]
    refine (putNumbers_bld wB W (.slice ta K tc) (L ++ PN) (hW.bld (by decide)) 1 g 4 4 _ rfl hg H63.out).mono ?_
    rintro e w' ⟨rfl, hb, hk⟩
    have hN : JSec wB W0 (.slice ta K tc) (L ++ PN) (putAllN 1 [kd, al, long, (nf : Int)]) W0.heap.size 48 #[.string nm, .int .i64 kd, .int .i64 al, .slice a1 nb c1, .int .i64 sz, .slice a2 nf c2] long [kd, al, long, (nf : Int)] 3 w' (upd vals 2 (.tuple #[])) := ⟨hW.keeps.trans hk, hb.below, hk.2 _ _ _ (by decide) (by decide) hW.has, fun h => absurd h (by decide), hW.fix, fun h => absurd h (by decide), fun _ => hb⟩
    first | exact hN | exact ⟨_, rfl, hN⟩
  · intro W vals hJ
    have HF : Hid (Built wB W0 (.slice ta K tc) (L ++ (PN ++ putAllN 1 [kd, al, long, (nf : Int)])) (.returned (.tuple #[])) W) := ⟨rfl, by rw [← List.append_assoc]; exact hJ.fin rfl, hJ.keeps⟩
    simp only [putAll, List.map_cons, List.map_nil, Job.val, Act.put, pA, pB, pC]
    clear hJ hJ0 HSZ H63
    go_wp2_with fail
    go_end0
    exact HF.out
set_option maxRecDepth 100000 in
set_option maxHeartbeats 1000000 in
theorem putSymbol_bld (wB W0 : World) (ta : Option Addr) (K tc : Nat) (TT L : List Int) (ht : TabV wB ta K tc TT) (h : Bld wB (.slice ta K tc) L W0) (nm : ByteArray) (bd lo va : Int) (hs : nm.size ≤ maxLen) (hlo : -9223372036854775808 ≤ lo ∧ lo ≤ 9223372036854775805) (h63 : L.length + 20 ≤ 1000000) :
    Calls Tryz.prog 29 #[.pointer (some ⟨wB.heap.size, 0, none⟩), .agg #[.string nm, .int .i64 bd, .int .i64 lo, .int .i64 va]] W0 (Built wB W0 (.slice ta K tc) (L ++ (putList (placeIn TT nm) 2 ++ (putAllN 1 [bd, lo + 2] ++ putList va 2)))) := by
  obtain ⟨W, hW⟩ : ∃ W, W0.alloc (.cells #[.string nm, .int .i64 bd, .int .i64 lo, .int .i64 va] 51) = W := ⟨_, rfl⟩
  have hh0 : Has W W0.heap.size 51 #[.string nm, .int .i64 bd, .int .i64 lo, .int .i64 va] := by rw [← hW]; exact Has.new _ _ _
  have n0 := hh0.cell 0
  have hb0 : Bld wB (.slice ta K tc) L W := by rw [← hW]; exact h.alloc _
  have HPN := hidden (putName_bld wB W ta K tc TT L ht hb0 nm hs (by omega))
  obtain ⟨PN, hPN⟩ : ∃ PN, putList (placeIn TT nm) 2 = PN := ⟨_, rfl⟩
  obtain ⟨PV, hPV⟩ : ∃ PV, putList va 2 = PV := ⟨_, rfl⟩
  obtain ⟨PB, hPB⟩ : ∃ PB, putAllN 1 [bd, lo + 2] = PB := ⟨_, rfl⟩
  have hPNs : PN.length ≤ 4 := by rw [← hPN]; exact putList_short _ _
  have hPBs : PB.length ≤ 8 := by rw [← hPB]; exact putAllN_short _ _
  rw [hPN] at HPN
  rw [hPN, hPV, hPB]
  have H1 : Hid ((L ++ PN).length + 4 * 2 ≤ 1000000) := by show _ ≤ _; rw [List.length_append]; omega
  have H2 : Hid ((L ++ PN ++ PB).length + 4 * 1 ≤ 1000000) := by show _ ≤ _; rw [List.length_append, List.length_append]; omega
  have HPV : Hid (putAllN 2 [va] = PV) := by show _ = _; simp [putAllN, hPV]
  have HPB := hidden hPB
  have hw : IntKind.i64.wrap (lo + 2) = lo + 2 := IntWalk.i64_in _ (by omega)
  have HH := hidden hh0
  have HK0 : Hid (Keeps W0 W) := by show Keeps _ _; rw [← hW]; exact (Keeps.refl _).alloc _
  have HW := hidden hW
  clear h ht hs h63 hPN hPNs hPV hPB hPBs hh0 hb0 hlo hW
  go_enter Tryz.func29, Tryz.ntmps29
  go_wp2_with fail
  rw [HW.out]
  refine HPN.out.mono ?_
  clear HPN n0
  rintro e w1 ⟨rfl, hb1, hk1⟩
  have hh1 := hk1.2 _ _ _ (by decide) (by decide) HH.out
  have n1 : w1.cell? ⟨W0.heap.size, 1, none⟩ = some (.int .i64 bd) := hh1.cell 1
  have n2 : w1.cell? ⟨W0.heap.size, 2, none⟩ = some (.int .i64 lo) := hh1.cell 2
  have HP2 := hidden (putNumbers_bld wB (w1.alloc (.cells #[.int .i64 bd, .int .i64 (lo + 2)] 3)) (.slice ta K tc) (L ++ PN) (hb1.alloc _) 1 w1.heap.size 2 2 [bd, lo + 2] rfl (Has.new _ _ _) H1.out)
  have HK1 := hidden ((HK0.out.trans hk1).alloc (.cells #[.int .i64 bd, .int .i64 (lo + 2)] 3))
  have HH1 := hidden (hh1.alloc (.cells #[.int .i64 bd, .int .i64 (lo + 2)] 3))
  rw [HPB.out] at HP2
  clear hb1 hk1 hh1 HH HK0 H1
  go_wp2_with fail
  refine HP2.out.mono ?_
  clear HP2 n1 n2
  rintro e w2 ⟨rfl, hb2, hk2⟩
  have hh2 := hk2.2 _ _ _ (by decide) (by decide) HH1.out
  have n3 : w2.cell? ⟨W0.heap.size, 3, none⟩ = some (.int .i64 va) := hh2.cell 3
  have HP3 := hidden (putNumbers_bld wB (w2.alloc (.cells #[.int .i64 va] 3)) (.slice ta K tc) (L ++ PN ++ PB) (hb2.alloc _) 2 w2.heap.size 1 1 [va] rfl (Has.new _ _ _) H2.out)
  have HK2 := hidden ((HK1.out.trans hk2).alloc (.cells #[.int .i64 va] 3))
  rw [HPV.out] at HP3
  clear hb2 hk2 hh2 HH1 HK1 H2
  go_wp2_with fail
  refine HP3.out.mono ?_
  clear HP3 n3
  rintro e w3 ⟨rfl, hb3, hk3⟩
  have HF : Hid (Built wB W0 (.slice ta K tc) (L ++ (PN ++ (PB ++ PV))) (.returned (.tuple #[])) w3) := ⟨rfl, by rw [← List.append_assoc, ← List.append_assoc]; exact hb3, HK2.out.trans hk3⟩
  clear hb3 hk3 HK2
  go_wp2_with fail
  go_end0
  exact HF.out
def fixPut (f : Fx) : List Int := putAllN 1 [f.pl, f.kind, f.to] ++ putList (f.add + 1000) 2
theorem fixPut_short (f : Fx) : (fixPut f).length ≤ 16 := by
  have h1 := putAllN_short 1 [f.pl, f.kind, f.to]
  have h2 := putList_short (f.add + 1000) 2
  unfold fixPut
  rw [List.length_append]
  simp only [List.length_cons, List.length_nil] at h1
  omega
theorem fixPuts_short : ∀ fs : List Fx, (fs.flatMap fixPut).length ≤ 16 * fs.length
  | [] => by simp
  | f :: r => by
    have h1 := fixPuts_short r
    have h2 := fixPut_short f
    rw [List.flatMap_cons, List.length_append, List.length_cons]
    omega
set_option maxRecDepth 100000 in
set_option maxHeartbeats 2000000 in
theorem putFixups_bld (wB W0 : World) (tv : Value) (L : List Int) (h : Bld wB tv L W0) (B : Nat) (a : Option Addr) (c m : Nat) (fs : List Fx) (hm : m = fs.length) (h2 : Fixs wB B a fs) (hB : B ≤ wB.heap.size) (hadd : ∀ f ∈ fs, -1000 ≤ f.add ∧ f.add ≤ 1000) (h63 : L.length + 16 * m ≤ 1000000) :
    Calls Tryz.prog 30 #[.pointer (some ⟨wB.heap.size, 0, none⟩), .slice a m c] W0 (Built wB W0 tv (L ++ fs.flatMap fixPut)) := by
  have H := hidden h
  have HM := hidden hm
  have H2 := hidden h2
  have HA := hidden hadd
  have H63 := hidden h63
  have hm6 : m ≤ 250000 := by omega
  clear h hm h2 hadd h63
  go_enter Tryz.func30, Tryz.ntmps30
  go_wp2_with fail
  go_loopw [8] (fun i wr => ∃ j : Nat, i = .int .i64 j ∧ j ≤ m ∧ Hid (Bld wB tv (L ++ (fs.take j).flatMap fixPut) wr) ∧ Hid (Keeps W0 wr)) (fun i _ => m - (intOf i).toNat)
  case atStart => exact ⟨0, rfl, Nat.zero_le _, (by show Bld _ _ _ _; simpa using H.out), Keeps.refl _⟩
  case round =>
    obtain ⟨j, rfl, hj, hb, hk⟩ := hrel
    by_cases hlt : j < m
    · have hi : (j : Int) < (m : Int) := by omega
      have hjl : j < fs.length := by rw [← HM.out]; exact hlt
      obtain ⟨b, off, rfl, hbB, p0, p1, p2, p3⟩ := (H2.out.below (hb.out.below.mono hB)).at_ hjl
      obtain ⟨f, hf⟩ : ∃ f, fs[j] = f := ⟨_, rfl⟩
      rw [hf] at p0 p1 p2 p3
      have hf2 : fs[j]? = some f := by rw [List.getElem?_eq_getElem hjl, hf]
      have hfa := HA.out f (by rw [← hf]; exact List.getElem_mem hjl)
      have HN := hidden (flat_snoc fixPut hf2)
      have hsh : ((fs.take j).flatMap fixPut).length ≤ 16 * j := by
        have := fixPuts_short (fs.take j)
        rw [List.length_take] at this
        omega
      obtain ⟨L0, hL0⟩ : ∃ L0, L ++ (fs.take j).flatMap fixPut = L0 := ⟨_, rfl⟩
      have hL0s : L0.length ≤ L.length + 16 * j := by rw [← hL0, List.length_append]; omega
      rw [hL0] at hb
      have HL0 := hidden hL0
      clear hf hf2 hjl hsh hL0
      obtain ⟨pl, kd, tg, ad⟩ := f
      simp only at p0 p1 p2 p3 hfa
      have HFP : Hid (fixPut ⟨pl, kd, tg, ad⟩ = putAllN 1 [pl, kd, tg] ++ putAllN 2 [ad + 1000]) := by show _ = _; simp [fixPut, putAllN]
      obtain ⟨P1, hP1⟩ : ∃ P1, putAllN 1 [pl, kd, tg] = P1 := ⟨_, rfl⟩
      have hP1s : P1.length ≤ 12 := by rw [← hP1]; exact putAllN_short _ _
      rw [hP1] at HFP
      have HP1 := hidden hP1
      have HS1 : Hid (L0.length + 4 * 3 ≤ 1000000) := by show _ ≤ _; have := H63.out; omega
      have HS2 : Hid ((L0 ++ P1).length + 4 * 1 ≤ 1000000) := by show _ ≤ _; rw [List.length_append]; have := H63.out; omega
      have hw : IntKind.i64.wrap (ad + 1000) = ad + 1000 := IntWalk.i64_in _ (by omega)
      have HH := hidden (Has.new wr 65 #[.int .i64 pl, .int .i64 kd, .int .i64 tg, .int .i64 ad])
      have HBA := hidden ((hb.out.alloc (.cells #[.int .i64 pl, .int .i64 kd, .int .i64 tg, .int .i64 ad] 65)).alloc (.cells #[.int .i64 pl, .int .i64 kd, .int .i64 tg] 3))
      have HKA := hidden ((hk.out.alloc (.cells #[.int .i64 pl, .int .i64 kd, .int .i64 tg, .int .i64 ad] 65)).alloc (.cells #[.int .i64 pl, .int .i64 kd, .int .i64 tg] 3))
      have HHA := hidden (HH.out.alloc (.cells #[.int .i64 pl, .int .i64 kd, .int .i64 tg] 3))
      have hsz1 : (wr.alloc (.cells #[.int .i64 pl, .int .i64 kd, .int .i64 tg, .int .i64 ad] 65)).heap.size = wr.heap.size + 1 := by simp
      have hg1 : Has ((wr.alloc (.cells #[.int .i64 pl, .int .i64 kd, .int .i64 tg, .int .i64 ad] 65)).alloc (.cells #[.int .i64 pl, .int .i64 kd, .int .i64 tg] 3)) (wr.heap.size + 1) 3 ([pl, kd, tg].map (Value.int .i64)).toArray := hsz1 ▸ Has.new _ _ _
      have HC1 := hidden (putNumbers_bld wB _ tv L0 HBA.out 1 (wr.heap.size + 1) 3 3 [pl, kd, tg] rfl hg1 HS1.out)
      rw [HP1.out] at HC1
      have hwr : wr.heap.size < (wr.alloc (.cells #[.int .i64 pl, .int .i64 kd, .int .i64 tg, .int .i64 ad] 65)).heap.size := HH.out.lt
      clear hb hk hP1 hP1s hL0s hfa hsz1 hg1
      go_wp2_with fail
      refine HC1.out.mono ?_
      clear HC1 p0 p1 p2 p3
      rintro e w1 ⟨rfl, hb1, hk1⟩
      have hh1 := hk1.2 _ _ _ (by decide) (by decide) HHA.out
      have n3 : w1.cell? ⟨wr.heap.size, 3, none⟩ = some (.int .i64 ad) := hh1.cell 3
      have HC2 := hidden (putNumbers_bld wB (w1.alloc (.cells #[.int .i64 (ad + 1000)] 3)) tv (L0 ++ P1) (hb1.alloc _) 2 w1.heap.size 1 1 [ad + 1000] rfl (Has.new _ _ _) HS2.out)
      have HK1 := hidden ((HKA.out.trans hk1).alloc (.cells #[.int .i64 (ad + 1000)] 3))
      clear hb1 hk1 hh1 HBA HKA HHA HH HS1 HS2
      go_wp2_with fail
      refine HC2.out.mono ?_
      clear HC2 n3
      rintro e w2 ⟨rfl, hb2, hk2⟩
      have HB2 : Hid (Bld wB tv (L ++ (fs.take (j + 1)).flatMap fixPut) w2) := by show Bld _ _ _ _; rw [HN.out, HFP.out, ← List.append_assoc, HL0.out, ← List.append_assoc]; exact hb2
      have HK2 := hidden (HK1.out.trans hk2)
      clear hb2 hk2 HK1 HN HFP HL0 hw hwr
      go_wp2_with fail
      go_roundw
      case rel => exact ⟨j + 1, by go_num, by omega, HB2, HK2⟩
      case measure => simp [intOf]; omega
    · have hi : ¬ (j : Int) < (m : Int) := by omega
      have HF : Hid (Built wB W0 tv (L ++ fs.flatMap fixPut) (.returned (.tuple #[])) wr) := by
        have e : fs.take j = fs := List.take_of_length_le (by rw [← HM.out]; omega)
        have := hb.out
        rw [e] at this
        exact ⟨rfl, this, hk.out⟩
      clear hb hk
      go_wp2_with fail
      go_end0
      exact HF.out
open Go.RowKit
set_option maxRecDepth 100000 in
set_option maxHeartbeats 2000000 in
theorem fixupCount_any (w : World) (B : Nat) (a1 a2 : Option Addr) (c1 c2 n m : Nat) (l : List Sp) (hn : n = l.length) (h1 : Sects w B a1 l) (hB : B ≤ w.heap.size) (hn8 : n ≤ 1000) (hf : ∀ y ∈ l, y.s.fixs.length ≤ 1000) :
    Calls Tryz.prog 63 #[.agg #[.slice a1 n c1, .slice a2 m c2]] w fun e w' => e = .returned (.int .i64 (manyFix l)) ∧ Below w.heap.size w w' := by
  have HN := hidden hn
  have H1 := hidden h1
  have HF := hidden hf
  clear hn h1 hf
  go_enter Tryz.func63, Tryz.ntmps63
  obtain ⟨X, hX⟩ : ∃ X : World, w.alloc (.cells #[.slice a1 n c1, .slice a2 m c2] 26) = X := ⟨_, rfl⟩
  have hb : Below w.heap.size w X := by rw [← hX]; exact (Below.refl _ _).alloc (Nat.le_refl _) _
  have hx : Has X w.heap.size 26 #[.slice a1 n c1, .slice a2 m c2] := by rw [← hX]; exact Has.new _ _ _
  have x0 := hx.cell 0
  have HX := hidden hX
  have HB := hidden hb
  clear hX hx hb
  go_wp2_with fail
  rw [HX.out]
  go_loopw [3, 9] (fun v i wr => ∃ k : Nat, v = .int .i64 (manyFix (l.take k)) ∧ i = .int .i64 k ∧ k ≤ n ∧ Hid (Below w.heap.size w wr)) (fun _ i _ => n - (intOf i).toNat)
  case atStart => exact ⟨0, by simp [manyFix], rfl, Nat.zero_le _, HB.out⟩
  case round =>
    obtain ⟨k, rfl, rfl, hk, hbw⟩ := hrel
    clear HB x0
    by_cases hlt : k < n
    · have hi : (k : Int) < (n : Int) := by omega
      have hkl : k < l.length := by rw [← HN.out]; exact hlt
      obtain ⟨b, off, rfl, hbB, hp⟩ := (H1.out.below (hbw.out.mono hB)).at_ hkl
      obtain ⟨y, hy⟩ : ∃ y, l[k] = y := ⟨_, rfl⟩
      rw [hy] at hp
      obtain ⟨p0, p1, p2, p3, p4, p5⟩ := hp
      have hy2 : l[k]? = some y := by rw [List.getElem?_eq_getElem hkl, hy]
      have hyl := HF.out y (by rw [← hy]; exact List.getElem_mem hkl)
      have hm1 : manyFix (l.take k) ≤ 1000 * k := by
        have := manyFix_le (l.take k) (fun z hz => HF.out z (List.mem_of_mem_take hz))
        rw [List.length_take] at this
        exact Nat.le_trans this (Nat.mul_le_mul_left _ (Nat.min_le_left _ _))
      have hs := hidden (manyFix_snoc l k y hy2)
      obtain ⟨q, hq⟩ : ∃ q, manyFix (l.take k) = q := ⟨_, rfl⟩
      obtain ⟨u, hu⟩ : ∃ u, y.s.fixs.length = u := ⟨_, rfl⟩
      rw [hq] at hm1 hs ⊢
      rw [hu] at hs hyl p5
      have hwr : IntKind.i64.wrap ((q : Int) + (u : Int)) = (q : Int) + (u : Int) := IntWalk.i64_in _ (by omega)
      have hbw2 := hidden (hbw.out.alloc hbw.out.size (.cells #[.string y.s.name, .int .i64 y.s.kind, .int .i64 y.s.align, .slice y.a1 y.s.bytes.length y.c1, .int .i64 y.s.size, .slice y.a2 u y.c2] 48))
      clear hy hy2 hkl hq hu hbw
      go_wp2_with fail
      go_roundw
      case rel => exact ⟨k + 1, by rw [hs.out]; go_num, by go_num, by omega, hbw2⟩
      case measure => simp [intOf]; omega
    · have hi : ¬ (k : Int) < (n : Int) := by omega
      have ht : l.take k = l := List.take_of_length_le (by rw [← HN.out]; omega)
      rw [ht]
      go_wp2_with fail
      go_ret
      exact ⟨rfl, hbw.out⟩
structure JHdr (wB W0 : World) (tv : Value) (L nb : List Int) (ob : Nat) (t : TypeId) (cs : Array Value) (F : Nat) (k : Nat) (W : World) (vals : Nat → Value) : Prop where
  keeps : Keeps W0 W
  below : Below wB.heap.size wB W
  has : Has W ob t cs
  tab : W.cell? ⟨wB.heap.size, 0, none⟩ = some tv
  bld : k ≤ 2 → Bld wB tv L W
  fix : vals 0 = .int .i64 F
  head : k = 2 → ∃ ad c, vals 1 = .slice ad 10 c ∧ Ints W .u8 W.heap.size ad nb
  fin : k = 3 → Bld wB tv (L ++ nb) W
set_option maxRecDepth 100000 in
set_option maxHeartbeats 2000000 in
theorem putHeader_bld (wB W0 : World) (ta : Option Addr) (K tc : Nat) (h : Bld wB (.slice ta K tc) [] W0) (a1 a2 : Option Addr) (c1 c2 n m F : Nat) (P0 : List Int) (hP : P0.length = 10)
    (hfc : ∀ W, Below wB.heap.size wB W → Calls Tryz.prog 63 #[.agg #[.slice a1 n c1, .slice a2 m c2]] W fun e w' => e = .returned (.int .i64 F) ∧ Below W.heap.size W w')
    (hph : ∀ W, Calls Tryz.prog 62 #[.agg #[.int .i64 n, .int .i64 m, .int .i64 F, .int .i64 K]] W fun e w' => ∃ ad c, e = .returned (.slice ad 10 c) ∧ Ints w' .u8 w'.heap.size ad P0 ∧ Below W.heap.size W w') :
    Calls Tryz.prog 27 #[.pointer (some ⟨wB.heap.size, 0, none⟩), .agg #[.slice a1 n c1, .slice a2 m c2]] W0 (Built wB W0 (.slice ta K tc) P0) := by
  have HFC := hidden hfc
  have HPH := hidden hph
  have HP := hidden hP
  have hh0 : Has (W0.alloc (.cells #[.slice a1 n c1, .slice a2 m c2] 26)) W0.heap.size 26 #[.slice a1 n c1, .slice a2 m c2] := Has.new _ _ _
  have hb0 := h.alloc (.cells #[.slice a1 n c1, .slice a2 m c2] 26)
  have hJ0 : Hid (JHdr wB W0 (.slice ta K tc) [] P0 W0.heap.size 26 #[.slice a1 n c1, .slice a2 m c2] F 0 (W0.alloc (.cells #[.slice a1 n c1, .slice a2 m c2] 26)).drew fun _ => .int .i64 F) := ⟨((Keeps.refl W0).alloc _).trans (.below ⟨rfl, rfl, rfl, Nat.le_refl _, fun _ _ => rfl⟩), hb0.drew.below, hh0.drew, hb0.drew.table, fun _ => hb0.drew, rfl, fun h => absurd h (by decide), fun h => absurd h (by decide)⟩
  clear h hfc hph hP hh0 hb0
  go_enter Tryz.func27, Tryz.ntmps27
  go_upto_region 1 with fail
  refine wp_region_chain (m := 3) (js := [.quiet (.pointer (some ⟨wB.heap.size, 0, none⟩)) 3, .quiet (.pointer (some ⟨W0.heap.size, 0, none⟩)) 3, .quiet (.slice a1 n c1) 3, .quiet (.int .i64 n) 3, .quiet (.pointer (some ⟨W0.heap.size, 1, none⟩)) 3, .quiet (.slice a2 m c2) 3, .quiet (.int .i64 m) 3, .quiet (.agg #[.slice a1 n c1, .slice a2 m c2]) 3, .chain 0, .quiet (.pointer (some ⟨wB.heap.size, 0, none⟩)) 3, .quiet (.pointer (some ⟨wB.heap.size, 0, none⟩)) 3, .quiet (.pointer (some ⟨wB.heap.size, 0, none⟩)) 3, .quiet (.slice ta K tc) 3, .quiet (.int .i64 K) 3, .quiet (.agg #[.int .i64 n, .int .i64 m, .int .i64 F, .int .i64 K]) 3, .chain 1, .chain 2]) (by kernel_rfl) (JHdr wB W0 (.slice ta K tc) [] P0 W0.heap.size 26 #[.slice a1 n c1, .slice a2 m c2] F) (by kernel_rfl) (by kernel_rfl) ⟨_, hJ0.out⟩ (fun vals => ?_) ?_
  · show SeqW _ _ _ _ _ _ _
    iterate 2
      refine ⟨fun kk hkk W hW => ?_, ?_⟩
      · unfold Oper.wp
        simp [go_sem]
        try exact ⟨_, rfl, rfl⟩
      simp only [Act.put, pA, pB, pC]
    refine ⟨fun kk hkk W hW => ?_, ?_⟩
    · have q1 := (hW.has.cell 0 : W.cell? ⟨W0.heap.size, 0, none⟩ = some (.slice a1 n c1))
      unfold Oper.wp
      simp [go_sem, q1]
      try exact ⟨_, rfl, rfl⟩
    simp only [Act.put, pA, pB, pC]
    iterate 2
      refine ⟨fun kk hkk W hW => ?_, ?_⟩
      · unfold Oper.wp
        simp [go_sem]
        try exact ⟨_, rfl, rfl⟩
      simp only [Act.put, pA, pB, pC]
    refine ⟨fun kk hkk W hW => ?_, ?_⟩
    · have q1 := (hW.has.cell 1 : W.cell? ⟨W0.heap.size, 1, none⟩ = some (.slice a2 m c2))
      unfold Oper.wp
      simp [go_sem, q1]
      try exact ⟨_, rfl, rfl⟩
    simp only [Act.put, pA, pB, pC]
    refine ⟨fun kk hkk W hW => ?_, ?_⟩
    · unfold Oper.wp
      simp [go_sem]
      try exact ⟨_, rfl, rfl⟩
    simp only [Act.put, pA, pB, pC]
    refine ⟨fun kk hkk W hW => ?_, ?_⟩
    · have q0 := (hW.has.cell 0 : W.cell? ⟨W0.heap.size, 0, none⟩ = some (.slice a1 n c1))
      have q1 := (hW.has.cell 1 : W.cell? ⟨W0.heap.size, 1, none⟩ = some (.slice a2 m c2))
      unfold Oper.wp
      simp [go_sem, q0, q1]
      try exact ⟨_, rfl, rfl⟩
    simp only [Act.put, pA, pB, pC]
    refine ⟨fun W hW => ?_, ?_⟩
    · unfold Oper.wp
      simp [go_sem]
      refine (HFC.out W hW.below).mono ?_
      rintro e w' ⟨rfl, hb⟩
      have hB := (hW.bld (by decide)).call hb
      have hN : JHdr wB W0 (.slice ta K tc) [] P0 W0.heap.size 26 #[.slice a1 n c1, .slice a2 m c2] F 1 w' (upd vals 0 (.int .i64 F)) := ⟨hW.keeps.trans (.below hb), hB.below, hW.has.below hb hW.has.lt, hB.table, fun _ => hB, rfl, fun h => absurd h (by decide), fun h => absurd h (by decide)⟩
      first | exact hN | exact ⟨_, rfl, hN⟩
    simp only [Act.put, pA, pB, pC]
    iterate 3
      refine ⟨fun kk hkk W hW => ?_, ?_⟩
      · unfold Oper.wp
        simp [go_sem]
        try exact ⟨_, rfl, rfl⟩
      simp only [Act.put, pA, pB, pC]
    refine ⟨fun kk hkk W hW => ?_, ?_⟩
    · have q1 := hW.tab
      unfold Oper.wp
      simp [go_sem, q1]
      try exact ⟨_, rfl, rfl⟩
    simp only [Act.put, pA, pB, pC]
    refine ⟨fun kk hkk W hW => ?_, ?_⟩
    · unfold Oper.wp
      simp [go_sem]
      try exact ⟨_, rfl, rfl⟩
    simp only [Act.put, pA, pB, pC]
    refine ⟨fun kk hkk W hW => ?_, ?_⟩
    · have q1 := hW.fix
      unfold Oper.wp
      simp [go_sem, q1]
      try exact ⟨_, rfl, rfl⟩
    simp only [Act.put, pA, pB, pC]
    refine ⟨fun W hW => ?_, ?_⟩
    · have q1 := hW.fix
      unfold Oper.wp
      simp [go_sem]
      try rw [q1]
      refine (HPH.out W).mono ?_
      rintro e w' ⟨ad, c, rfl, hi, hb⟩
      have hB := (hW.bld (by decide)).call hb
      have hN : JHdr wB W0 (.slice ta K tc) [] P0 W0.heap.size 26 #[.slice a1 n c1, .slice a2 m c2] F 2 w' (upd vals 1 (.slice ad 10 c)) := ⟨hW.keeps.trans (.below hb), hB.below, hW.has.below hb hW.has.lt, hB.table, fun _ => hB, hW.fix, fun _ => ⟨ad, c, rfl, hi⟩, fun h => absurd h (by decide)⟩
      first | exact hN | exact ⟨_, rfl, hN⟩
    simp only [Act.put, pA, pB, pC]
    refine ⟨fun W hW => ?_, trivial⟩
    obtain ⟨ad, c, hv, hi⟩ := hW.head rfl
    unfold Oper.wp
    simp [go_sem, hv]
    refine (putBytes_bld wB W (.slice ta K tc) [] (hW.bld (by decide)) ad 10 c P0 HP.out.symm hi (by simp)).mono ?_
    rintro e w' ⟨rfl, hb, hk⟩
    have hN : JHdr wB W0 (.slice ta K tc) [] P0 W0.heap.size 26 #[.slice a1 n c1, .slice a2 m c2] F 3 w' (upd vals 2 (.tuple #[])) := ⟨hW.keeps.trans hk, hb.below, hk.2 _ _ _ (by decide) (by decide) hW.has, hb.table, fun h => absurd h (by decide), hW.fix, fun h => absurd h (by decide), fun _ => hb⟩
    first | exact hN | exact ⟨_, rfl, hN⟩
  · intro W vals hJ
    have HF : Hid (Built wB W0 (.slice ta K tc) P0 (.returned (.tuple #[])) W) := ⟨rfl, hJ.fin rfl, hJ.keeps⟩
    simp only [putAll, List.map_cons, List.map_nil, Job.val, Act.put, pA, pB, pC]
    clear hJ hJ0 HFC HPH HP
    go_wp2_with fail
    go_end0
    exact HF.out
set_option maxRecDepth 100000 in
set_option maxHeartbeats 4000000 in
theorem objectTable_any (want : WantNameTable) (w : World) (B : Nat) (a1 a2 : Option Addr) (c1 c2 n m : Nat) (l : List Sp) (ms : List Sm) (hn : n = l.length) (hm : m = ms.length) (h1 : Sects w B a1 l) (h2 : Syms w B a2 ms) (hB : B ≤ w.heap.size) (hn8 : n ≤ 1000) (hm8 : m ≤ 1000) (hns : ∀ x ∈ allNames l ms, x.size ≤ maxLen) :
    Calls Tryz.prog 26 #[.agg #[.slice a1 n c1, .slice a2 m c2]] w (Tabled w (nameTab (allNames l ms))) := by
  have HN := hidden hn
  have HM := hidden hm
  have H1 := hidden h1
  have H2 := hidden h2
  have hnl : (allNames l ms).length = n + m := by unfold allNames; rw [List.length_append, List.length_map, List.length_map, ← hn, ← hm]
  have HNL := hidden hnl
  have HNS := hidden hns
  clear hn hm h1 h2 hnl hns
  go_enter Tryz.func26, Tryz.ntmps26
  obtain ⟨i0, hi, hz0, hz1, hz2⟩ := info_parts Tryz.info_str
  obtain ⟨X, hX⟩ : ∃ X : World, w.alloc (.cells #[.slice a1 n c1, .slice a2 m c2] 26) = X := ⟨_, rfl⟩
  have hbX : Below w.heap.size w X := by rw [← hX]; exact (Below.refl _ _).alloc (Nat.le_refl _) _
  have hx : Has X w.heap.size 26 #[.slice a1 n c1, .slice a2 m c2] := by rw [← hX]; exact Has.new _ _ _
  have hXs : X.heap.size = w.heap.size + 1 := by rw [← hX]; simp
  have HC : Hid (∀ W, Below (w.heap.size + 1) X W → W.cell? ⟨w.heap.size, 0, none⟩ = some (.slice a1 n c1) ∧ W.cell? ⟨w.heap.size, 1, none⟩ = some (.slice a2 m c2)) := fun W hW => ⟨(hW.cell (Nat.lt_succ_self _)).trans (hx.cell 0), (hW.cell (Nat.lt_succ_self _)).trans (hx.cell 1)⟩
  have x0 : X.cell? ⟨w.heap.size, 0, none⟩ = some (.slice a1 n c1) := hx.cell 0
  have hrow0 : Hid (X.ownsRow (w.heap.size + 1) 9 1 (.slice none 0 0) 0 []) := World.ownsRow_nil _ _ _ _
  have HX := hidden hX
  have HB := hidden hB
  have HXS := hidden hXs
  have HBX := hidden hbX
  obtain ⟨LN, hLN⟩ : ∃ L, L = l.map (fun y => Value.string y.s.name) := ⟨_, rfl⟩
  obtain ⟨LM, hLM⟩ : ∃ L, L = ms.map (fun y => Value.string y.name) := ⟨_, rfl⟩
  have HLN := hidden hLN
  have HLM := hidden hLM
  have hall : (allNames l ms).map Value.string = LN ++ LM := by rw [hLN, hLM]; unfold allNames; rw [List.map_append, List.map_map, List.map_map]; rfl
  have HALL := hidden hall
  clear hLN hLM hall hX hx hB hXs hbX
  go_wp2_with fail
  rw [HX.out]
  go_loopw [3, 11] (fun v i wr => ∃ k : Nat, i = .int .i64 k ∧ k ≤ n ∧ Hid (wr.ownsRow (w.heap.size + 1) 9 1 v k (LN.take k)) ∧ Hid (Below (w.heap.size + 1) X wr)) (fun _ i _ => n - (intOf i).toNat)
  case atStart => exact ⟨0, rfl, Nat.zero_le _, (by show World.ownsRow _ _ _ _ _ _ _; simpa using hrow0.out), Below.refl _ _⟩
  case round =>
    obtain ⟨k, rfl, hk, hrow, hbw⟩ := hrel
    clear hrow0 x0
    have hb0 := hidden (HBX.out.trans (hbw.out.mono (Nat.le_succ _)))
    have hszr : w.heap.size + 1 ≤ wr.heap.size := by have := hbw.out.size; have := HXS.out; omega
    by_cases hlt : k < n
    · have hilt : (k : Int) < (n : Int) := by omega
      have hkl : k < l.length := by rw [← HN.out]; exact hlt
      obtain ⟨b, off, rfl, hbB, hp⟩ := (H1.out.below (hb0.out.mono HB.out)).at_ hkl
      obtain ⟨y, hy⟩ : ∃ y, l[k] = y := ⟨_, rfl⟩
      rw [hy] at hp
      obtain ⟨p0, p1, p2, p3, p4, p5⟩ := hp
      have hT : Hid (LN.take (k + 1) = LN.take k ++ [.string y.s.name]) := by
        show _ = _
        rw [List.take_add_one, HLN.out, List.getElem?_map, List.getElem?_eq_getElem hkl, hy]; rfl
      have HO := hidden ((hrow.out.alloc (.cells #[.string y.s.name, .int .i64 y.s.kind, .int .i64 y.s.align, .slice y.a1 y.s.bytes.length y.c1, .int .i64 y.s.size, .slice y.a2 y.s.fixs.length y.c2] 48)).alloc (.cells #[.string y.s.name] 9))
      have hlow : Hid (∀ q, _ = some q → w.heap.size + 1 ≤ q) := fun q hq => (hrow.out.lt q hq).1
      have hbw1 := hidden ((hbw.out.alloc hszr (.cells #[.string y.s.name, .int .i64 y.s.kind, .int .i64 y.s.align, .slice y.a1 y.s.bytes.length y.c1, .int .i64 y.s.size, .slice y.a2 y.s.fixs.length y.c2] 48)).alloc (by simp; omega) (.cells #[.string y.s.name] 9))
      have hc1 : ((wr.alloc (.cells #[.string y.s.name, .int .i64 y.s.kind, .int .i64 y.s.align, .slice y.a1 y.s.bytes.length y.c1, .int .i64 y.s.size, .slice y.a2 y.s.fixs.length y.c2] 48)).alloc (.cells #[.string y.s.name] 9)).cell? ⟨wr.heap.size + 1, 0, none⟩ = some (.string y.s.name) := by simp
      clear hy hkl hrow hbw
      go_wp2_with (at_builtin; refine wpList_append_own _ rfl _ _ 56 rfl (w.heap.size + 1) 9 i0 (.string ⟨#[]⟩) 1 16 Tryz.underlying56 hi hz0 hz1 hz2 rfl (by decide) _ _ _ rfl HO.out ⟨wr.heap.size + 1, 0, none⟩ 1 1 [.string y.s.name] rfl rfl (fun t u ht => by
          match t, ht with
          | 0, ht => simp at ht; subst ht; simp [Addr.add]) (by intro u hu; simp at hu; subst hu; rfl) (by unfold maxLen; omega) (by omega) (by simp; omega) ?_)
      intro v' w2 hown hg _
      have hrow2 : Hid (w2.ownsRow (w.heap.size + 1) 9 1 v' (k + 1) (LN.take (k + 1))) := by
        show w2.ownsRow _ _ _ _ _ _
        rw [hT.out]; exact hown
      have hbw2 := hidden (hbw1.out.grown hg (by simp; omega) (fun q hq => hlow.out q hq))
      clear hown hg HO hlow hbw1 hb0 hc1 hT
      go_wp2_with fail
      go_roundw
      case rel => exact ⟨k + 1, by go_num, by omega, hrow2, hbw2⟩
      case measure => simp [intOf]; omega
    · have hilt : ¬ (k : Int) < (n : Int) := by omega
      have hkn : k = n := by omega
      subst hkn
      have ht : LN.take k = LN := List.take_of_length_le (by rw [HLN.out, List.length_map, ← HN.out]; omega)
      rw [ht] at hrow
      have x1 := (HC.out wr hbw.out).2
      clear hlt ht
      go_wp2_with fail
      clear hilt x1
      go_loopw [3, 24] (fun v i wr => ∃ j : Nat, i = .int .i64 j ∧ j ≤ m ∧ Hid (wr.ownsRow (w.heap.size + 1) 9 1 v (k + j) (LN ++ LM.take j)) ∧ Hid (Below (w.heap.size + 1) X wr)) (fun _ i _ => m - (intOf i).toNat)
      case atStart => exact ⟨0, rfl, Nat.zero_le _, (by show World.ownsRow _ _ _ _ _ _ _; simpa using hrow.out), hbw⟩
      case round =>
        clear hrow hbw hb0 hszr
        obtain ⟨j, rfl, hj, hrow, hbw⟩ := hrel
        have hb0 := hidden (HBX.out.trans (hbw.out.mono (Nat.le_succ _)))
        have hszr : w.heap.size + 1 ≤ wr.heap.size := by have := hbw.out.size; have := HXS.out; omega
        by_cases hlt : j < m
        · have hilt : (j : Int) < (m : Int) := by omega
          have hjl : j < ms.length := by rw [← HM.out]; exact hlt
          obtain ⟨b, off, rfl, hbB, p0, p1, p2, p3⟩ := (H2.out.below (hb0.out.mono HB.out)).at_ hjl
          obtain ⟨y, hy⟩ : ∃ y, ms[j] = y := ⟨_, rfl⟩
          rw [hy] at p0 p1 p2 p3
          have hT : Hid (LN ++ LM.take (j + 1) = (LN ++ LM.take j) ++ [.string y.name]) := by
            show _ = _
            rw [List.take_add_one, HLM.out, List.getElem?_map, List.getElem?_eq_getElem hjl, hy, List.append_assoc]; rfl
          have HO := hidden ((hrow.out.alloc (.cells #[.string y.name, .int .i64 y.bind, .int .i64 y.loc, .int .i64 y.value] 51)).alloc (.cells #[.string y.name] 9))
          have hlow : Hid (∀ q, _ = some q → w.heap.size + 1 ≤ q) := fun q hq => (hrow.out.lt q hq).1
          have hbw1 := hidden ((hbw.out.alloc hszr (.cells #[.string y.name, .int .i64 y.bind, .int .i64 y.loc, .int .i64 y.value] 51)).alloc (by simp; omega) (.cells #[.string y.name] 9))
          have hc1 : ((wr.alloc (.cells #[.string y.name, .int .i64 y.bind, .int .i64 y.loc, .int .i64 y.value] 51)).alloc (.cells #[.string y.name] 9)).cell? ⟨wr.heap.size + 1, 0, none⟩ = some (.string y.name) := by simp
          clear hy hjl hrow hbw
          go_wp2_with (at_builtin; refine wpList_append_own _ rfl _ _ 56 rfl (w.heap.size + 1) 9 i0 (.string ⟨#[]⟩) 1 16 Tryz.underlying56 hi hz0 hz1 hz2 rfl (by decide) _ _ _ rfl HO.out ⟨wr.heap.size + 1, 0, none⟩ 1 1 [.string y.name] rfl rfl (fun t u ht => by
              match t, ht with
              | 0, ht => simp at ht; subst ht; simp [Addr.add]) (by intro u hu; simp at hu; subst hu; rfl) (by unfold maxLen; omega) (by omega) (by simp; omega) ?_)
          intro v' w2 hown hg _
          have hrow2 : Hid (w2.ownsRow (w.heap.size + 1) 9 1 v' (k + (j + 1)) (LN ++ LM.take (j + 1))) := by
            show w2.ownsRow _ _ _ _ _ _
            rw [hT.out, List.append_assoc]; exact hown
          have hbw2 := hidden (hbw1.out.grown hg (by simp; omega) (fun q hq => hlow.out q hq))
          clear hown hg HO hlow hbw1 hb0 hc1 hT
          go_wp2_with fail
          go_roundw
          case rel => exact ⟨j + 1, by go_num, by omega, hrow2, hbw2⟩
          case measure => simp [intOf]; omega
        · have hilt : ¬ (j : Int) < (m : Int) := by omega
          have hjm : j = m := by omega
          subst hjm
          have ht : LM.take j = LM := List.take_of_length_le (by rw [HLM.out, List.length_map, ← HM.out]; omega)
          rw [ht] at hrow
          have hrow3 := hrow.out
          rw [← HALL.out] at hrow3
          have hrow4 : wr.ownsRow (w.heap.size + 1) 9 1 u3 ((allNames l ms).map Value.string).length ((allNames l ms).map Value.string) := by rw [List.length_map, HNL.out]; exact hrow3
          obtain ⟨va, vc, hnv, _, hvv⟩ := vals_of_own hrow4
          rw [List.length_map, HNL.out] at hnv
          subst hnv
          have hNT := want wr wr.heap.size va vc (allNames l ms) hvv (Nat.le_refl _) (by rw [HNL.out]; omega) HNS.out
          obtain ⟨TT, hTT⟩ : ∃ TT, nameTab (allNames l ms) = TT := ⟨_, rfl⟩
          rw [HNL.out, hTT] at hNT
          unfold Tabled at hNT
          obtain ⟨K, hK⟩ : ∃ K, TT.length = K := ⟨_, rfl⟩
          rw [hK] at hNT
          have HTT := hidden hTT
          have HK := hidden hK
          have HNT := hidden hNT
          clear hNT hvv hrow hrow3 hrow4 hTT hK
          go_wp2_with fail
          refine HNT.out.mono ?_
          clear HNT
          rintro e wT ⟨ta, tc, rfl, htc, htm, hti, hbT⟩
          have HF : Hid (Tabled w (nameTab (allNames l ms)) (.returned (.slice ta K tc)) wT) := by
            show Tabled _ _ _ _
            rw [HTT.out]
            unfold Tabled
            rw [HK.out]
            exact ⟨ta, tc, rfl, htc, htm, hti, hb0.out.trans (hbT.mono hb0.out.size)⟩
          clear htc htm hti hbT hb0
          go_wp2_with fail
          go_ret
          exact HF.out
theorem names_short {l : List Sp} {ms : List Sm} (hl : ∀ y ∈ l, y.s.fits) (hs : ∀ x ∈ ms, x.fits) : ∀ x ∈ allNames l ms, x.size ≤ maxLen := fun x hx => by
  unfold allNames at hx
  rcases List.mem_append.1 hx with h | h
  · obtain ⟨y, hy, rfl⟩ := List.mem_map.1 h; exact (hl y hy).name
  · obtain ⟨y, hy, rfl⟩ := List.mem_map.1 h; exact (hs y hy).name
open Go.RowKit
def secPut (t : List Int) (y : Sp) : List Int := putList (placeIn t y.s.name) 2 ++ putAllN 1 [y.s.kind, y.s.align, y.s.long, (y.s.fixs.length : Int)]
def symPut (t : List Int) (m : Sm) : List Int := putList (placeIn t m.name) 2 ++ (putAllN 1 [m.bind, m.loc + 2] ++ putList m.value 2)
theorem secPut_short (t : List Int) (y : Sp) : (secPut t y).length ≤ 20 := by
  have h1 := putAllN_short 1 [y.s.kind, y.s.align, y.s.long, (y.s.fixs.length : Int)]
  have h2 := putList_short (placeIn t y.s.name) 2
  unfold secPut
  rw [List.length_append]
  simp only [List.length_cons, List.length_nil] at h1
  omega
theorem symPut_short (t : List Int) (m : Sm) : (symPut t m).length ≤ 20 := by
  have h1 := putAllN_short 1 [m.bind, m.loc + 2]
  have h2 := putList_short (placeIn t m.name) 2
  have h3 := putList_short m.value 2
  unfold symPut
  rw [List.length_append, List.length_append]
  simp only [List.length_cons, List.length_nil] at h1
  omega
theorem putAllN_1 : ∀ ns : List Int, (∀ x ∈ ns, 0 ≤ x ∧ x < 256) → putAllN 1 ns = ns
  | [], _ => rfl
  | x :: r, h => by
    have h1 := putAllN_1 r (fun z hz => h z (by simp [hz]))
    have h2 := h x (by simp)
    unfold putAllN at h1 ⊢
    rw [List.flatMap_cons, h1, putList_yes (by omega) (by omega) h2.1 (by show x < 256; exact h2.2)]
    show bytesOf x 1 ++ r = x :: r
    rw [bytesOf_1 x h2.1 h2.2]; rfl
theorem flatMap_same {A : Type} {f g : A → List Int} : ∀ l : List A, (∀ x ∈ l, f x = g x) → l.flatMap f = l.flatMap g
  | [], _ => rfl
  | x :: r, h => by rw [List.flatMap_cons, List.flatMap_cons, h x (by simp), flatMap_same r (fun z hz => h z (by simp [hz]))]
theorem puts_eq {l : List Sp} {ms : List Sm} (h : objOk (l.map Sp.s) ms = true) {T P0 : List Int} (hT : nameTab (allNames l ms) = T) (hP : putHd (headOf l ms T) = P0) :
    P0 ++ l.flatMap (secPut T) ++ ms.flatMap (symPut T) ++ (l.flatMap fun y => y.s.fixs.flatMap fixPut) ++ T ++ (l.flatMap fun y => y.s.bytes) = writeObj l ms := by
  have ht := objOk_told h
  have e1 : l.flatMap (secPut T) = l.flatMap (secBytes T) := flatMap_same l fun y hy => by
    obtain ⟨b1, b2, -⟩ := sect_bytes (ht.sec y hy)
    obtain ⟨-, -, p3, p4, p5, -⟩ := sect_parts (ht.sec y hy)
    unfold secPut secBytes
    rw [putAllN_1]
    intro x hx
    simp only [List.mem_cons, List.not_mem_nil, or_false] at hx
    rcases hx with rfl | rfl | rfl | rfl <;> constructor <;> omega
  have e2 : ms.flatMap (symPut T) = ms.flatMap (symBytes T) := flatMap_same ms fun m hm => by
    obtain ⟨b1, b2, b3⟩ := sym_bytes ht hm
    unfold symPut symBytes
    rw [putAllN_1]
    intro x hx
    simp only [List.mem_cons, List.not_mem_nil, or_false] at hx
    rcases hx with rfl | rfl <;> constructor <;> omega
  have e3 : (l.flatMap fun y => y.s.fixs.flatMap fixPut) = l.flatMap fun y => y.s.fixs.flatMap fixBytes := flatMap_same l fun y hy => flatMap_same _ fun f hf => by
    obtain ⟨b1, b2, ⟨b3, b4⟩, -⟩ := (sect_bytes (ht.sec y hy)).2.2 f hf
    have h12 := ht.syms
    unfold fixPut fixBytes
    rw [putAllN_1]
    intro x hx
    simp only [List.mem_cons, List.not_mem_nil, or_false] at hx
    rcases hx with rfl | rfl | rfl <;> constructor <;> omega
  unfold writeObj
  rw [if_pos h, hT, hP, e1, e2, e3]
  simp only [List.append_assoc]
set_option maxRecDepth 100000 in
set_option maxHeartbeats 8000000 in
theorem writeObject_any (want : WantNameTable) (w : World) (B : Nat) (a1 a2 : Option Addr) (c1 c2 n m : Nat) (l : List Sp) (ms : List Sm) (hn : n = l.length) (hm : m = ms.length) (h1 : Sects w B a1 l) (h2 : Syms w B a2 ms) (hB : B ≤ w.heap.size) (hlen : n ≤ 9223372036854775807) (hlem : m ≤ 9223372036854775807)
    (hl : ∀ y ∈ l, y.s.fits) (hs : ∀ x ∈ ms, x.fits) :
    Calls Tryz.prog 7 #[.agg #[.slice a1 n c1, .slice a2 m c2]] w (RowB w (writeObj l ms)) := by
  have HOB := hidden (fun (W : World) (hW : Below w.heap.size w W) => objectValid_any W B a1 a2 c1 c2 n m l ms hn hm (h1.below (hW.mono hB)) (h2.below (hW.mono hB)) (Nat.le_trans hB hW.size) hlen hlem hl hs)
  have HNS := hidden (names_short hl hs)
  obtain ⟨ok, hok⟩ : ∃ ok, objOk (l.map Sp.s) ms = ok := ⟨_, rfl⟩
  rw [hok] at HOB
  have HOK := hidden hok
  have HN := hidden hn
  have HM := hidden hm
  have H1 := hidden h1
  have H2 := hidden h2
  have HB := hidden hB
  have HL := hidden hl
  have HS := hidden hs
  obtain ⟨R, hR⟩ : ∃ R, writeObj l ms = R := ⟨_, rfl⟩
  have HR := hidden hR
  rw [hR]
  clear hok hn hm h1 h2 hl hs hR hB
  go_enter Tryz.func7, Tryz.ntmps7
  obtain ⟨X, hX⟩ : ∃ X : World, w.alloc (.cells #[.slice a1 n c1, .slice a2 m c2] 26) = X := ⟨_, rfl⟩
  have hb : Below w.heap.size w X := by rw [← hX]; exact (Below.refl _ _).alloc (Nat.le_refl _) _
  have hx : Has X w.heap.size 26 #[.slice a1 n c1, .slice a2 m c2] := by rw [← hX]; exact Has.new _ _ _
  have hXs : X.heap.size = w.heap.size + 1 := by rw [← hX]; simp
  have HX := hidden hX
  have HC : Hid (∀ W, Below X.heap.size X W → W.cell? ⟨w.heap.size, 0, none⟩ = some (.slice a1 n c1) ∧ W.cell? ⟨w.heap.size, 1, none⟩ = some (.slice a2 m c2)) := fun W hW => ⟨(hW.cell (by show w.heap.size < _; omega)).trans (hx.cell 0), (hW.cell (by show w.heap.size < _; omega)).trans (hx.cell 1)⟩
  clear hX hx
  go_wp2_with fail
  rw [HX.out]
  refine (HOB.out X hb).mono ?_
  clear HOB
  rintro e w2 ⟨rfl, hb2⟩
  have HB2 := hidden (hb.trans (hb2.mono hb.size))
  have HQ : Hid (∀ W, Below w2.heap.size w2 W → W.cell? ⟨w.heap.size, 0, none⟩ = some (.slice a1 n c1) ∧ W.cell? ⟨w.heap.size, 1, none⟩ = some (.slice a2 m c2)) := fun W hW => HC.out W (hb2.trans (hW.mono hb2.size))
  clear hb2 hb HC HX hXs
  rcases ok with _ | _
  · have HF : Hid (R = []) := by show _ = _; rw [← HR.out]; unfold writeObj; rw [HOK.out]; rfl
    go_wp2_with fail
    go_ret
    rw [HF.out]
    exact ⟨_, rfl, World.ownsRow_nil _ _ _ _, HB2.out⟩
  have hT0 := objOk_told HOK.out
  have hn8 : n ≤ 8 := by rw [HN.out]; exact hT0.secs
  have hm12 : m ≤ 12 := by rw [HM.out]; exact hT0.syms
  have HSEC := hidden (fun y hy => sect_parts (hT0.sec y hy))
  have HSY := hidden (fun x hx => sym_bytes hT0 (m := x) hx)
  obtain ⟨F, hF⟩ : ∃ F, manyFix l = F := ⟨_, rfl⟩
  obtain ⟨TT, hTT⟩ : ∃ TT, nameTab (allNames l ms) = TT := ⟨_, rfl⟩
  obtain ⟨K, hK⟩ : ∃ K, TT.length = K := ⟨_, rfl⟩
  have hK4 : 1 ≤ K ∧ K ≤ 400 := by rw [← hK, ← hTT]; exact tab_bounds hT0
  obtain ⟨P0, hP0⟩ : ∃ P0, putHd (headOf l ms TT) = P0 := ⟨_, rfl⟩
  have hP10 : P0.length = 10 := by rw [← hP0, ← hTT]; unfold putHd; rw [if_pos (head_ok hT0)]; rfl
  have hPW : ∀ x ∈ P0, (Lit.int .u8 x).wf = true := by rw [← hP0]; exact putHd_wf _
  have HPH : Hid (∀ W, Calls Tryz.prog 62 #[.agg #[.int .i64 n, .int .i64 m, .int .i64 F, .int .i64 K]] W fun e w' => ∃ ad c, e = .returned (.slice ad 10 c) ∧ Ints w' .u8 w'.heap.size ad P0 ∧ Below W.heap.size W w') := fun W => by
    have h := putHeader_any W (headOf l ms TT)
    rw [hP0] at h
    have e : (headOf l ms TT).agg = .agg #[.int .i64 n, .int .i64 m, .int .i64 F, .int .i64 K] := by
      rw [HN.out, HM.out, ← hF, ← hK]; rfl
    rw [e] at h
    refine h.mono fun e w' h => ?_
    obtain ⟨a, c, g, h1, -, -, h4, -, -, h7⟩ := h.parts hPW
    rw [hP10] at h1
    exact ⟨a, c, h1, h4, h7⟩
  have HRR : Hid (P0 ++ l.flatMap (secPut TT) ++ ms.flatMap (symPut TT) ++ (l.flatMap fun y => y.s.fixs.flatMap fixPut) ++ TT ++ (l.flatMap fun y => y.s.bytes) = R) := by
    show _ = _
    rw [← HR.out]; exact puts_eq HOK.out hTT hP0
  have HFC : Hid (∀ W, Below w2.heap.size w2 W → Calls Tryz.prog 63 #[.agg #[.slice a1 n c1, .slice a2 m c2]] W fun e w' => e = .returned (.int .i64 F) ∧ Below W.heap.size W w') := fun W hW => by
    have hBW := HB2.out.trans (hW.mono HB2.out.size)
    have := fixupCount_any W B a1 a2 c1 c2 n m l HN.out (H1.out.below (hBW.mono HB.out)) (Nat.le_trans HB.out hBW.size) (by omega) (fun y hy => by have := (HSEC.out y hy).2.2.1; omega)
    rwa [hF] at this
  have HNT := hidden (objectTable_any want w2 B a1 a2 c1 c2 n m l ms HN.out HM.out (H1.out.below (HB2.out.mono HB.out)) (H2.out.below (HB2.out.mono HB.out)) (Nat.le_trans HB.out HB2.out.size) (by omega) (by omega) HNS.out)
  rw [hTT] at HNT
  unfold Tabled at HNT
  rw [hK] at HNT
  have HK := hidden hK
  have HP10 := hidden hP10
  have c0 := (HQ.out w2 (Below.refl _ _)).1
  have c1' := (HQ.out w2 (Below.refl _ _)).2
  clear hF hTT hK hP0 hP10 hPW hT0 HR HNS
  go_wp2_with fail
  refine HNT.out.mono ?_
  clear HNT
  rintro e wT ⟨ta, tc, rfl, htc, htm, hti, hbT⟩
  have HTV : Hid (TabV wT ta K tc TT) := ⟨HK.out, hti, htc, htm⟩
  have HBT := hidden (HB2.out.trans (hbT.mono HB2.out.size))
  have HQT : Hid (∀ W, Below wT.heap.size wT W → W.cell? ⟨w.heap.size, 0, none⟩ = some (.slice a1 n c1) ∧ W.cell? ⟨w.heap.size, 1, none⟩ = some (.slice a2 m c2)) := fun W hW => HQ.out W (hbT.trans (hW.mono hbT.size))
  have HFT : Hid (∀ W, Below wT.heap.size wT W → Calls Tryz.prog 63 #[.agg #[.slice a1 n c1, .slice a2 m c2]] W fun e w' => e = .returned (.int .i64 F) ∧ Below W.heap.size W w') := fun W hW => HFC.out W (hbT.trans (hW.mono hbT.size))
  have HSS : Hid (∀ W, Below wT.heap.size wT W → ∀ y ∈ l, Calls Tryz.prog 66 #[.agg #[.string y.s.name, .int .i64 y.s.kind, .int .i64 y.s.align, .slice y.a1 y.s.bytes.length y.c1, .int .i64 y.s.size, .slice y.a2 y.s.fixs.length y.c2]] W fun e w' => e = .returned (.int .i64 y.s.long) ∧ Below W.heap.size W w') := fun W hW y hy => by
    have hBW := HBT.out.trans (hW.mono HBT.out.size)
    have hs1 := H1.out.below (hBW.mono HB.out)
    exact wantSectionSize W B y.s y.a1 y.c1 y.a2 y.c2 (hs1.bytes y hy) (hs1.fixs y hy) (Nat.le_trans HB.out hBW.size) (HL.out y hy)
  have HOW : Hid (∀ W, Below wT.heap.size wT W → Below w.heap.size w W) := fun W hW => HBT.out.trans (hW.mono HBT.out.size)
  have hBN := hidden (Bld.new wT (.slice ta K tc))
  clear htc htm hti hbT HQ HFC c0 c1'
  go_upto_region 4 with fail
  obtain ⟨W1, hW1⟩ : ∃ W1, wT.alloc (.cells #[.slice ta K tc, .slice none 0 0] 44) = W1 := ⟨_, rfl⟩
  rw [hW1] at hBN ⊢
  have d0 := (HQT.out W1 hBN.out.below).1
  have d1 := (HQT.out W1 hBN.out.below).2
  have HPU := hidden (putHeader_bld wT W1 ta K tc hBN.out a1 a2 c1 c2 n m F P0 HP10.out HFT.out HPH.out)
  clear hW1 hBN HFT HPH
  go_wp2_with fail
  refine HPU.out.mono ?_
  clear HPU d0 d1
  rintro e w4 ⟨rfl, hb4, -⟩
  have d0 := (HQT.out w4 hb4.below).1
  have HB4 := hidden hb4
  clear hb4
  go_wp2_with fail
  go_loopw [23] (fun i wr => ∃ (k : Nat) (L : List Int), i = .int .i64 k ∧ k ≤ n ∧ Hid (Bld wT (.slice ta K tc) L wr) ∧ Hid (L = P0 ++ (l.take k).flatMap (secPut TT)) ∧ L.length ≤ 10 + 20 * k) (fun i _ => n - (intOf i).toNat)
  case atStart => exact ⟨0, P0, rfl, Nat.zero_le _, HB4, (by show _ = _; simp), by rw [HP10.out]; omega⟩
  case round =>
    obtain ⟨k, L, rfl, hk, hb, hL, hLs⟩ := hrel
    clear d0 HB4
    by_cases hlt : k < n
    · have hilt : (k : Int) < (n : Int) := by omega
      have hkl : k < l.length := by rw [← HN.out]; exact hlt
      obtain ⟨b, off, rfl, hbB, hp⟩ := (H1.out.below ((HOW.out wr hb.out.below).mono HB.out)).at_ hkl
      obtain ⟨y, hy⟩ : ∃ y, l[k] = y := ⟨_, rfl⟩
      rw [hy] at hp
      obtain ⟨p0, p1, p2, p3, p4, p5⟩ := hp
      have hy2 : l[k]? = some y := by rw [List.getElem?_eq_getElem hkl, hy]
      have hym : y ∈ l := by rw [← hy]; exact List.getElem_mem hkl
      have HPS := hidden (putSection_bld wT (wr.alloc (.cells #[.string y.s.name, .int .i64 y.s.kind, .int .i64 y.s.align, .slice y.a1 y.s.bytes.length y.c1, .int .i64 y.s.size, .slice y.a2 y.s.fixs.length y.c2] 48)) ta K tc TT L HTV.out (hb.out.alloc _) y.s.name y.s.kind y.s.align y.s.size y.s.long y.a1 y.a2 y.s.bytes.length y.s.fixs.length y.c1 y.c2 (HL.out y hym).name (HL.out y hym).count (fun W hW => HSS.out W hW y hym) (by omega))
      have HLN : Hid (L ++ secPut TT y = P0 ++ (l.take (k + 1)).flatMap (secPut TT)) := by show _ = _; rw [hL.out, flat_snoc _ hy2, List.append_assoc]
      have hLN : (L ++ secPut TT y).length ≤ 10 + 20 * (k + 1) := by have := secPut_short TT y; rw [List.length_append]; omega
      have HLNs := hidden hLN
      clear hy hy2 hkl hym hb hL hLN
      go_wp2_with fail
      refine HPS.out.mono ?_
      clear HPS
      rintro e w5 ⟨rfl, hb5, -⟩
      have HB5 : Hid (Bld wT (.slice ta K tc) (L ++ secPut TT y) w5) := hb5
      clear hb5 p0 p1 p2 p3 p4 p5
      go_wp2_with fail
      go_roundw
      case rel => exact ⟨k + 1, _, by go_num, by omega, HB5, HLN, HLNs.out⟩
      case measure => simp [intOf]; omega
    · have hilt : ¬ (k : Int) < (n : Int) := by omega
      have HL1 : Hid (L = P0 ++ l.flatMap (secPut TT)) := by
        show _ = _
        have e : l.take k = l := List.take_of_length_le (by rw [← HN.out]; omega)
        rw [hL.out, e]
      have hL1s : L.length ≤ 170 := by omega
      have d1 := (HQT.out wr hb.out.below).2
      clear hL hlt hk hLs
      go_wp2_with fail
      clear hilt d1
      go_loopw [33] (fun i wr => ∃ (j : Nat) (M : List Int), i = .int .i64 j ∧ j ≤ m ∧ Hid (Bld wT (.slice ta K tc) M wr) ∧ Hid (M = L ++ (ms.take j).flatMap (symPut TT)) ∧ M.length ≤ 170 + 20 * j) (fun i _ => m - (intOf i).toNat)
      case atStart => exact ⟨0, L, rfl, Nat.zero_le _, hb, (by show _ = _; simp), by omega⟩
      case round =>
        obtain ⟨j, M, rfl, hj, hb2, hM, hMs⟩ := hrel
        clear hb
        by_cases hlt : j < m
        · have hilt : (j : Int) < (m : Int) := by omega
          have hkl : j < ms.length := by rw [← HM.out]; exact hlt
          obtain ⟨b, off, rfl, hbB, p0, p1, p2, p3⟩ := (H2.out.below ((HOW.out wr hb2.out.below).mono HB.out)).at_ hkl
          obtain ⟨y, hy⟩ : ∃ y, ms[j] = y := ⟨_, rfl⟩
          rw [hy] at p0 p1 p2 p3
          have hy2 : ms[j]? = some y := by rw [List.getElem?_eq_getElem hkl, hy]
          have hym : y ∈ ms := by rw [← hy]; exact List.getElem_mem hkl
          obtain ⟨-, hlo1, hlo2⟩ := HSY.out y hym
          have HPS := hidden (putSymbol_bld wT (wr.alloc (.cells #[.string y.name, .int .i64 y.bind, .int .i64 y.loc, .int .i64 y.value] 51)) ta K tc TT M HTV.out (hb2.out.alloc _) y.name y.bind y.loc y.value (HS.out y hym).name ⟨by omega, by omega⟩ (by omega))
          have HLN : Hid (M ++ symPut TT y = L ++ (ms.take (j + 1)).flatMap (symPut TT)) := by show _ = _; rw [hM.out, flat_snoc _ hy2, List.append_assoc]
          have hLN : (M ++ symPut TT y).length ≤ 170 + 20 * (j + 1) := by have := symPut_short TT y; rw [List.length_append]; omega
          have HLNs := hidden hLN
          clear hy hy2 hkl hym hb2 hM hLN hlo1 hlo2
          go_wp2_with fail
          refine HPS.out.mono ?_
          clear HPS
          rintro e w5 ⟨rfl, hb5, -⟩
          have HB5 : Hid (Bld wT (.slice ta K tc) (M ++ symPut TT y) w5) := hb5
          clear hb5 p0 p1 p2 p3
          go_wp2_with fail
          go_roundw
          case rel => exact ⟨j + 1, _, by go_num, by omega, HB5, HLN, HLNs.out⟩
          case measure => simp [intOf]; omega
        · have hilt : ¬ (j : Int) < (m : Int) := by omega
          have HL2 : Hid (M = P0 ++ l.flatMap (secPut TT) ++ ms.flatMap (symPut TT)) := by
            show _ = _
            have e : ms.take j = ms := List.take_of_length_le (by rw [← HM.out]; omega)
            rw [hM.out, e, HL1.out]
          have hM1s : M.length ≤ 410 := by omega
          have d0 := (HQT.out wr hb2.out.below).1
          clear hM hlt hj hMs HL1 hL1s
          go_wp2_with fail
          clear hilt d0
          go_loopw [43] (fun i wr => ∃ (k : Nat) (L : List Int), i = .int .i64 k ∧ k ≤ n ∧ Hid (Bld wT (.slice ta K tc) L wr) ∧ Hid (L = M ++ (l.take k).flatMap fun y => y.s.fixs.flatMap fixPut) ∧ L.length ≤ 410 + 96 * k) (fun i _ => n - (intOf i).toNat)
          case atStart => exact ⟨0, M, rfl, Nat.zero_le _, hb2, (by show _ = _; simp), by omega⟩
          case round =>
            obtain ⟨k, L, rfl, hk, hb, hL, hLs⟩ := hrel
            clear hb2
            by_cases hlt : k < n
            · have hilt : (k : Int) < (n : Int) := by omega
              have hkl : k < l.length := by rw [← HN.out]; exact hlt
              have hsx := H1.out.below ((HOW.out wr hb.out.below).mono HB.out)
              obtain ⟨b, off, rfl, hbB, hp⟩ := hsx.at_ hkl
              obtain ⟨y, hy⟩ : ∃ y, l[k] = y := ⟨_, rfl⟩
              rw [hy] at hp
              obtain ⟨p0, p1, p2, p3, p4, p5⟩ := hp
              have hy2 : l[k]? = some y := by rw [List.getElem?_eq_getElem hkl, hy]
              have hym : y ∈ l := by rw [← hy]; exact List.getElem_mem hkl
              obtain ⟨-, -, hy6, -, -, hya⟩ := HSEC.out y hym
              have HPS := hidden (putFixups_bld wT (wr.alloc (.cells #[.string y.s.name, .int .i64 y.s.kind, .int .i64 y.s.align, .slice y.a1 y.s.bytes.length y.c1, .int .i64 y.s.size, .slice y.a2 y.s.fixs.length y.c2] 48)) (.slice ta K tc) L (hb.out.alloc _) B y.a2 y.c2 y.s.fixs.length y.s.fixs rfl ((H1.out.below (HBT.out.mono HB.out)).fixs y hym) (Nat.le_trans HB.out HBT.out.size) hya (by omega))
              have HLN : Hid (L ++ y.s.fixs.flatMap fixPut = M ++ (l.take (k + 1)).flatMap fun y => y.s.fixs.flatMap fixPut) := by show _ = _; rw [hL.out, flat_snoc (fun y => y.s.fixs.flatMap fixPut) hy2, List.append_assoc]
              have hLN : (L ++ y.s.fixs.flatMap fixPut).length ≤ 410 + 96 * (k + 1) := by have := fixPuts_short y.s.fixs; rw [List.length_append]; omega
              have HLNs := hidden hLN
              clear hy hy2 hkl hym hb hL hLN hsx hy6 hya
              go_wp2_with fail
              refine HPS.out.mono ?_
              clear HPS
              rintro e w5 ⟨rfl, hb5, -⟩
              have HB5 := hidden hb5
              clear hb5 p0 p1 p2 p3 p4 p5
              go_wp2_with fail
              go_roundw
              case rel => exact ⟨k + 1, _, by go_num, by omega, HB5, HLN, HLNs.out⟩
              case measure => simp [intOf]; omega
            · have hilt : ¬ (k : Int) < (n : Int) := by omega
              have HL3 : Hid (L ++ TT = P0 ++ l.flatMap (secPut TT) ++ ms.flatMap (symPut TT) ++ (l.flatMap fun y => y.s.fixs.flatMap fixPut) ++ TT) := by
                show _ = _
                have e : l.take k = l := List.take_of_length_le (by rw [← HN.out]; omega)
                rw [hL.out, e, HL2.out]
              have hL3s : L.length ≤ 1178 := by omega
              have HPB := hidden (putBytes_bld wT wr (.slice ta K tc) L hb.out ta K tc TT HK.out.symm ((HTV.out.ints.below hb.out.below).more hb.out.below.size) (by omega))
              have d0 := hb.out.table
              have hLT : (L ++ TT).length ≤ 1578 := by rw [List.length_append, HK.out]; omega
              have HLT := hidden hLT
              clear hL hlt hk hLs HL2 hM1s hb hLT hL3s
              go_wp2_with fail
              refine HPB.out.mono ?_
              clear HPB d0
              rintro e w6 ⟨rfl, hb6, -⟩
              have d0 := (HQT.out w6 hb6.below).1
              have HB6 := hidden hb6
              obtain ⟨L3, hL3⟩ : ∃ L3, L ++ TT = L3 := ⟨_, rfl⟩
              rw [hL3] at HB6 HL3 HLT
              clear hb6 hL3
              go_wp2_with fail
              clear hilt d0
              go_loopw [57] (fun i wr => ∃ (k : Nat) (L : List Int), i = .int .i64 k ∧ k ≤ n ∧ Hid (Bld wT (.slice ta K tc) L wr) ∧ Hid (L = L3 ++ (l.take k).flatMap fun y => y.s.bytes) ∧ L.length ≤ 1578 + 48 * k) (fun i _ => n - (intOf i).toNat)
              case atStart => exact ⟨0, L3, rfl, Nat.zero_le _, HB6, (by show _ = _; simp), by have := HLT.out; omega⟩
              case round =>
                clear HB6
                obtain ⟨k, L, rfl, hk, hb, hL, hLs⟩ := hrel
                by_cases hlt : k < n
                · have hilt : (k : Int) < (n : Int) := by omega
                  have hkl : k < l.length := by rw [← HN.out]; exact hlt
                  have hsx := H1.out.below ((HOW.out wr hb.out.below).mono HB.out)
                  obtain ⟨b, off, rfl, hbB, hp⟩ := hsx.at_ hkl
                  obtain ⟨y, hy⟩ : ∃ y, l[k] = y := ⟨_, rfl⟩
                  rw [hy] at hp
                  obtain ⟨p0, p1, p2, p3, p4, p5⟩ := hp
                  have hy2 : l[k]? = some y := by rw [List.getElem?_eq_getElem hkl, hy]
                  have hym : y ∈ l := by rw [← hy]; exact List.getElem_mem hkl
                  obtain ⟨-, hy48, -, -, -, -⟩ := HSEC.out y hym
                  have hib : Ints (wr.alloc (.cells #[.string y.s.name, .int .i64 y.s.kind, .int .i64 y.s.align, .slice y.a1 y.s.bytes.length y.c1, .int .i64 y.s.size, .slice y.a2 y.s.fixs.length y.c2] 48)) .u8 (wr.alloc (.cells #[.string y.s.name, .int .i64 y.s.kind, .int .i64 y.s.align, .slice y.a1 y.s.bytes.length y.c1, .int .i64 y.s.size, .slice y.a2 y.s.fixs.length y.c2] 48)).heap.size y.a1 y.s.bytes := ((hsx.bytes y hym).more (Nat.le_trans HB.out (HOW.out wr hb.out.below).size)).alloc (Nat.le_refl _) _ |>.more (by simp)
                  have HPS := hidden (putBytes_bld wT (wr.alloc (.cells #[.string y.s.name, .int .i64 y.s.kind, .int .i64 y.s.align, .slice y.a1 y.s.bytes.length y.c1, .int .i64 y.s.size, .slice y.a2 y.s.fixs.length y.c2] 48)) (.slice ta K tc) L (hb.out.alloc _) y.a1 y.s.bytes.length y.c1 y.s.bytes rfl hib (by omega))
                  have HLN : Hid (L ++ y.s.bytes = L3 ++ (l.take (k + 1)).flatMap fun y => y.s.bytes) := by show _ = _; rw [hL.out, flat_snoc (fun y => y.s.bytes) hy2, List.append_assoc]
                  have hLN : (L ++ y.s.bytes).length ≤ 1578 + 48 * (k + 1) := by rw [List.length_append]; omega
                  have HLNs := hidden hLN
                  clear hy hy2 hkl hym hb hL hLN hsx hy48 hib
                  go_wp2_with fail
                  refine HPS.out.mono ?_
                  clear HPS
                  rintro e w5 ⟨rfl, hb5, -⟩
                  have HB5 := hidden hb5
                  clear hb5 p0 p1 p2 p3 p4 p5
                  go_wp2_with fail
                  go_roundw
                  case rel => exact ⟨k + 1, _, by go_num, by omega, HB5, HLN, HLNs.out⟩
                  case measure => simp [intOf]; omega
                · have hilt : ¬ (k : Int) < (n : Int) := by omega
                  have HE : Hid (L = R) := by
                    show _ = _
                    have e : l.take k = l := List.take_of_length_le (by rw [← HN.out]; omega)
                    rw [hL.out, e, HL3.out, HRR.out]
                  obtain ⟨v, hh, hrow⟩ := hb.out.row
                  have e1 : wr.cell? ⟨wT.heap.size, 1, none⟩ = some v := hh.cell 1
                  have HF : Hid (RowB w R (.returned v) wr) := by
                    rw [HE.out] at hrow
                    exact ⟨v, rfl, hrow.lower (Nat.le_trans HBT.out.size (Nat.le_succ _)), HOW.out wr hb.out.below⟩
                  clear hh hrow hb hL HE hlt hk hLs
                  go_wp2_with fail
                  go_ret
                  exact HF.out
theorem wantWriteObject (want : WantNameTable) : WantWriteObject := fun w B a1 a2 c1 c2 l ms h1 h2 hB hlen hlem hl hs => writeObject_any want w B a1 a2 c1 c2 _ _ l ms rfl rfl h1 h2 hB hlen hlem hl hs

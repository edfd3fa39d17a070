/-
  The builder of an object's bytes: impl.objectBuilder and its methods.
-/
import Derived.Test.YtjafekjcncmjjaaGreatWrP
import Derived.Test.YtjafekjcncmjjaaGreatPutHI
import Derived.Test.YtjafekjcncmjjaaGreatPlaceI
import Derived.Test.YtjafekjcncmjjaaGreatSecK
namespace Go.Proofs.YtjafekjcncmjjaaGreat
open Go.RowKit

/-- What stays while bytes are built: every block that holds no bytes and no builder. -/
def Keeps (W W' : World) : Prop := W.heap.size ≤ W'.heap.size ∧ ∀ b t cs, t ≠ 5 → t ≠ 62 → Has W b t cs → Has W' b t cs
theorem Keeps.refl (W : World) : Keeps W W := ⟨Nat.le_refl _, fun _ _ _ _ _ h => h⟩
theorem Keeps.trans {a b c : World} (h : Keeps a b) (k : Keeps b c) : Keeps a c := ⟨Nat.le_trans h.1 k.1, fun q t cs h1 h2 h3 => k.2 q t cs h1 h2 (h.2 q t cs h1 h2 h3)⟩
theorem Keeps.below {W W' : World} (h : Below W.heap.size W W') : Keeps W W' := ⟨h.size, fun _ _ _ _ _ hh => hh.below h hh.lt⟩
theorem Keeps.alloc {W W' : World} (h : Keeps W W') (o : Obj) : Keeps W (W'.alloc o) := h.trans (.below ((Below.refl _ _).alloc (Nat.le_refl _) _))
/-- A builder that was laid at the end of a world wB: its table, and the bytes that are built. -/
structure Bld (wB : World) (tv : Value) (L : List Int) (W : World) : Prop where
  below : Below wB.heap.size wB W
  row : ∃ v, Has W wB.heap.size 62 #[tv, v] ∧ RowI W (wB.heap.size + 1) v L.length L
section
variable {wB W W' : World} {tv : Value} {L : List Int}
theorem Bld.lt (h : Bld wB tv L W) : wB.heap.size < W.heap.size := by obtain ⟨v, hh, _⟩ := h.row; exact hh.lt
theorem Bld.call (h : Bld wB tv L W) (hb : Below W.heap.size W W') : Bld wB tv L W' :=
  ⟨h.below.trans (hb.mono h.below.size), by obtain ⟨v, hh, hr⟩ := h.row; exact ⟨v, hh.below hb hh.lt, hr.only hb⟩⟩
theorem Bld.alloc (h : Bld wB tv L W) (o : Obj) : Bld wB tv L (W.alloc o) := h.call ((Below.refl _ _).alloc (Nat.le_refl _) _)
theorem Bld.drew (h : Bld wB tv L W) : Bld wB tv L W.drew := h.call ⟨rfl, rfl, rfl, Nat.le_refl _, fun _ _ => rfl⟩
theorem Bld.table (h : Bld wB tv L W) : W.cell? ⟨wB.heap.size, 0, none⟩ = some tv := by obtain ⟨v, hh, _⟩ := h.row; exact hh.cell 0
theorem Bld.new (wB : World) (tv : Value) : Bld wB tv [] (wB.alloc (.cells #[tv, .slice none 0 0] 62)) :=
  ⟨(Below.refl _ _).alloc (Nat.le_refl _) _, _, Has.new _ _ _, World.ownsRow_nil _ _ _ _⟩
end
/-- What a method of the builder leaves. -/
def Built (wB W : World) (tv : Value) (L : List Int) (e : Ending) (W' : World) : Prop := e = .returned (.tuple #[]) ∧ Bld wB tv L W' ∧ Keeps W W'
theorem RowI.slice {W : World} {base N : Nat} {v : Value} {L : List Int} (h : RowI W base v N L) : ∃ a c, v = .slice a N c := by
  rcases h.2 with ⟨rfl, h0⟩ | ⟨g, cap, cur, e, _⟩
  · exact ⟨none, 0, by rw [h0]⟩
  · exact ⟨_, _, e⟩
set_option maxRecDepth 100000 in
theorem putBytes_bld (wB W : World) (tv : Value) (L : List Int) (h : Bld wB tv L W) (ad : Option Addr) (m c : Nat) (l : List Int) (hm : m = l.length) (hi : Ints W .u8 W.heap.size ad l) (h63 : L.length + m ≤ 1000000) :
    Calls Tryz.prog 31 #[.pointer (some ⟨wB.heap.size, 0, none⟩), .slice ad m c] W (Built wB W tv (L ++ l)) := by
  obtain ⟨hbel, v, hh, hrow⟩ := h
  obtain ⟨N, hN⟩ : ∃ N, L.length = N := ⟨_, rfl⟩
  obtain ⟨bb, hbb⟩ : ∃ bb, wB.heap.size = bb := ⟨_, rfl⟩
  rw [hN, hbb] at hrow
  rw [hN] at h63
  rw [hbb] at hh ⊢
  have c0 := hh.cell 0
  have c1 : W.cell? ⟨bb, 1, none⟩ = some v := hh.cell 1
  have hlt := hh.lt
  have HBB := hidden hbb
  have HBEL := hidden hbel
  have HN := hidden hN
  have HH := hidden hh
  have HROW := hidden hrow
  have HI := hidden hi
  have HM := hidden hm
  clear hN hbb hbel hh hrow hi hm
  go_enter Tryz.func31, Tryz.ntmps31
  go_wp2_with (at_builtin; refine wpList_append_ints _ rfl _ _ rfl (bb + 1) v N L rfl HROW.out ad m c W.heap.size l HM.out rfl HI.out h63 (by omega) ?_)
  intro v' w4 hrow4 hg4
  obtain ⟨av, cv, rfl⟩ := hrow4.slice
  have hh4 : Has w4 bb 62 #[tv, v] := HH.out.grown hg4 (HROW.out.away HH.out (by decide))
  have hk4 : Keeps W w4 := ⟨hg4.size, fun b t cs h1 h2 h3 => h3.grown hg4 (HROW.out.away h3 h1)⟩
  have hb4 : Below bb W w4 := (Below.refl _ _).grown hg4 (by omega) (fun j hj => by have := (HROW.out.lt j hj).1; omega)
  have q1 : w4.cell? ⟨bb, 1, none⟩ = some v := hh4.cell 1
  have f1 : w4.frozen? ⟨bb, 1, none⟩ = false := hh4.free 1
  have HF : Hid (Built wB W tv (L ++ l) (.returned (.tuple #[])) (w4.setCell ⟨bb, 1, none⟩ (.slice av (N + m) cv))) := by
    refine ⟨rfl, ⟨?_, .slice av (N + m) cv, ?_, ?_⟩, ?_⟩
    · rw [HBB.out]
      exact (HBB.out ▸ HBEL.out : Below bb wB W).trans (hb4.setCell (Nat.le_refl _) _)
    · have := hh4.put 1 (.slice av (N + m) cv)
      rw [HBB.out]
      simpa using this
    · have hne : some bb ≠ (Value.slice av (N + m) cv).ownBlock := hrow4.away hh4 (by decide)
      rw [HBB.out, List.length_append, HN.out, ← HM.out]
      exact hrow4.kept (only_put' (g := bb) 1 (.slice av (N + m) cv)) (Or.inr hne.symm)
    · exact hk4.trans ⟨by simp, fun b t cs h1 h2 h3 => h3.away (fun e => by subst e; unfold Has at h3; have := hh4; unfold Has at this; rw [h3] at this; injection this with this; injection this with _ this; exact h2 this) _⟩
  clear c0 c1 HBB HBEL HN HH HROW HI HM hk4 hb4 hrow4 hg4 h63
  go_wp2_with fail
  go_end0
  exact HF.out
/-- The bytes of several numbers. -/
def putAllN (k : Int) (ns : List Int) : List Int := ns.flatMap fun x => putList x k
theorem putAllN_short (k : Int) : ∀ ns : List Int, (putAllN k ns).length ≤ 4 * ns.length
  | [] => by simp [putAllN]
  | x :: r => by
    have h1 := putAllN_short k r
    have h2 := putList_short x k
    unfold putAllN at h1 ⊢
    rw [List.flatMap_cons, List.length_append, List.length_cons]
    omega
theorem putAllN_snoc {k : Int} {ns : List Int} {j : Nat} {x : Int} (h : ns[j]? = some x) : putAllN k (ns.take (j + 1)) = putAllN k (ns.take j) ++ putList x k := flat_snoc _ h
set_option maxRecDepth 100000 in
set_option maxHeartbeats 1000000 in
theorem putNumbers_bld (wB W : World) (tv : Value) (L : List Int) (h : Bld wB tv L W) (k : Int) (g c m : Nat) (ns : List Int) (hm : ns.length = m) (hg : Has W g 3 (ns.map (Value.int .i64)).toArray) (h63 : L.length + 4 * m ≤ 1000000) :
    Calls Tryz.prog 54 #[.pointer (some ⟨wB.heap.size, 0, none⟩), .int .i64 k, .slice (some ⟨g, 0, none⟩) m c] W (Built wB W tv (L ++ putAllN k ns)) := by
  have H := hidden h
  have HG := hidden hg
  have HM := hidden hm
  have H63 := hidden h63
  have hm6 : m ≤ 250000 := by omega
  clear h hg hm h63
  go_enter Tryz.func54, Tryz.ntmps54
  go_wp2_with fail
  go_loopw [10] (fun i wr => ∃ j : Nat, i = .int .i64 j ∧ j ≤ m ∧ Hid (Bld wB tv (L ++ putAllN k (ns.take j)) wr) ∧ Hid (Keeps W wr)) (fun i _ => m - (intOf i).toNat)
  case atStart => exact ⟨0, rfl, Nat.zero_le _, (by show Bld _ _ _ _; simpa [putAllN] using H.out), Keeps.refl _⟩
  case round =>
    obtain ⟨j, rfl, hj, hb, hk⟩ := hrel
    by_cases hlt : j < m
    · have hi : (j : Int) < (m : Int) := by omega
      have hjl : j < ns.length := by rw [HM.out]; exact hlt
      obtain ⟨x, hx⟩ : ∃ x, ns[j] = x := ⟨_, rfl⟩
      have hx2 : ns[j]? = some x := by rw [List.getElem?_eq_getElem hjl, hx]
      have hgr := hk.out.2 g 3 _ (by decide) (by decide) HG.out
      have q0 : wr.cell? ⟨g, j, none⟩ = some (.int .i64 x) := by rw [hgr.cell]; simp [hx2]
      have HN := hidden (putAllN_snoc (k := k) hx2)
      have hsh : (putAllN k (ns.take j)).length ≤ 4 * j := by
        have := putAllN_short k (ns.take j)
        rw [List.length_take] at this
        omega
      obtain ⟨nb, hnb⟩ : ∃ nb, putList x k = nb := ⟨_, rfl⟩
      obtain ⟨mb, hmb⟩ : ∃ mb, nb.length = mb := ⟨_, rfl⟩
      have hmb4 : mb ≤ 4 := by rw [← hmb, ← hnb]; exact putList_short _ _
      rw [hnb] at HN
      have HPN := hidden (fun W => putNumber_ints x k mb nb hnb hmb W)
      have HMB := hidden hmb
      have H63' : Hid ((L ++ putAllN k (ns.take j)).length + mb ≤ 1000000) := by
        show _ ≤ _
        have := H63.out
        rw [List.length_append]
        omega
      clear hx hx2 hnb hmb hjl hgr hsh hmb4
      go_wp2_with fail
      refine (HPN.out _).mono ?_
      clear HPN
      rintro e w1 ⟨ad, c1, rfl, hi1, hb1⟩
      have HPB := hidden (putBytes_bld wB w1 tv _ (hb.out.call hb1) ad mb c1 nb HMB.out.symm hi1 H63'.out)
      have hk1 := hidden (hk.out.trans (.below hb1))
      clear hi1 hb1 hb hk q0 H63'
      go_wp2_with fail
      refine HPB.out.mono ?_
      clear HPB
      rintro e w2 ⟨rfl, hb2, hk2⟩
      have HB2 : Hid (Bld wB tv (L ++ putAllN k (ns.take (j + 1))) w2) := by show Bld _ _ _ _; rw [HN.out, ← List.append_assoc]; exact hb2
      have HK2 := hidden (hk1.out.trans hk2)
      clear hb2 hk2 hk1 HN
      go_wp2_with fail
      go_roundw
      case rel => exact ⟨j + 1, by go_num, by omega, HB2, HK2⟩
      case measure => simp [intOf]; omega
    · have hi : ¬ (j : Int) < (m : Int) := by omega
      have HF : Hid (Built wB W tv (L ++ putAllN k ns) (.returned (.tuple #[])) wr) := by
        have e : ns.take j = ns := List.take_of_length_le (by rw [HM.out]; omega)
        have := hb.out
        rw [e] at this
        exact ⟨rfl, this, hk.out⟩
      clear hb hk
      go_wp2_with fail
      go_end0
      exact HF.out
/-- A table that lay there ahead of the builder. -/
structure TabV (wB : World) (ta : Option Addr) (K tc : Nat) (TT : List Int) : Prop where
  len : TT.length = K
  ints : Ints wB .u8 wB.heap.size ta TT
  cap : K ≤ tc
  max : tc ≤ maxLen
set_option maxRecDepth 100000 in
theorem putName_bld (wB W : World) (ta : Option Addr) (K tc : Nat) (TT L : List Int) (ht : TabV wB ta K tc TT) (h : Bld wB (.slice ta K tc) L W) (s : ByteArray) (hs : s.size ≤ maxLen) (h63 : L.length + 4 ≤ 1000000) :
    Calls Tryz.prog 53 #[.pointer (some ⟨wB.heap.size, 0, none⟩), .string s] W (Built wB W (.slice ta K tc) (L ++ putList (placeIn TT s) 2)) := by
  have c0 := h.table
  have HP : Hid (Calls Tryz.prog 74 #[.slice ta K tc, .string s] W fun e w' => e = .returned (.int .i64 (placeIn TT s)) ∧ Below W.heap.size W w') := by
    have := placeOf_any W wB.heap.size ta tc TT (ht.ints.below h.below) (by rw [ht.len]; exact ht.cap) (by have := ht.max; unfold maxLen at this; omega) s hs
    rw [ht.len] at this
    unfold placeIn
    rw [ht.len]
    exact this.mono fun e w' h => ⟨h.1, h.2 ▸ Below.refl _ _⟩
  have H := hidden h
  have H63 := hidden h63
  have hlt := h.lt
  obtain ⟨p, hp⟩ : ∃ p, placeIn TT s = p := ⟨_, rfl⟩
  rw [hp] at HP ⊢
  clear h ht hp hs
  go_enter Tryz.func53, Tryz.ntmps53
  go_wp2_with fail
  refine HP.out.mono ?_
  clear HP
  rintro e w1 ⟨rfl, hb1⟩
  have HPN := hidden (putNumbers_bld wB (w1.alloc (.cells #[.int .i64 p] 3)) (.slice ta K tc) L ((H.out.call hb1).alloc _) 2 w1.heap.size 1 1 [p] rfl (Has.new _ _ _) (by have := H63.out; omega))
  have HK := hidden ((Keeps.below hb1).alloc (.cells #[.int .i64 p] 3))
  clear hb1 c0 H
  go_wp2_with fail
  refine HPN.out.mono ?_
  clear HPN
  rintro e w2 ⟨rfl, hb2, hk2⟩
  have HF : Hid (Built wB W (.slice ta K tc) (L ++ putList p 2) (.returned (.tuple #[])) w2) := ⟨rfl, by simpa [putAllN] using hb2, HK.out.trans hk2⟩
  clear hb2 hk2 HK
  go_wp2_with fail
  go_end0
  exact HF.out
/-- A section's box, a call, a list of numbers, their bytes. -/
structure JSec (wB W0 : World) (tv : Value) (L nb : List Int) (ob : Nat) (t : TypeId) (cs : Array Value) (long : Int) (ns : List Int) (k : Nat) (W : World) (vals : Nat → Value) : Prop where
  keeps : Keeps W0 W
  below : Below wB.heap.size wB W
  has : Has W ob t cs
  bld : k ≤ 2 → Bld wB tv L W
  fix : vals 0 = .int .i64 long
  arr : k = 2 → ∃ g, vals 1 = .slice (some ⟨g, 0, none⟩) 4 4 ∧ Has W g 3 (ns.map (Value.int .i64)).toArray
  fin : k = 3 → Bld wB tv (L ++ nb) W
set_option maxRecDepth 100000 in
set_option maxHeartbeats 2000000 in
theorem putSection_bld (wB W0 : World) (ta : Option Addr) (K tc : Nat) (TT L : List Int) (ht : TabV wB ta K tc TT) (h : Bld wB (.slice ta K tc) L W0) (nm : ByteArray) (kd al sz long : Int) (a1 a2 : Option Addr) (nb nf c1 c2 : Nat) (hs : nm.size ≤ maxLen) (_ : nf ≤ 9223372036854775807)
    (hsz : ∀ W, Below wB.heap.size wB W → Calls Tryz.prog 55 #[.agg #[.string nm, .int .i64 kd, .int .i64 al, .slice a1 nb c1, .int .i64 sz, .slice a2 nf c2]] W fun e w' => e = .returned (.int .i64 long) ∧ Below W.heap.size W w') (h63 : L.length + 20 ≤ 1000000) :
    Calls Tryz.prog 28 #[.pointer (some ⟨wB.heap.size, 0, none⟩), .agg #[.string nm, .int .i64 kd, .int .i64 al, .slice a1 nb c1, .int .i64 sz, .slice a2 nf c2]] W0 (Built wB W0 (.slice ta K tc) (L ++ (putList (placeIn TT nm) 2 ++ putAllN 1 [kd, al, long, (nf : Int)]))) := by
  have HSZ := hidden hsz
  have hh0 : Has (W0.alloc (.cells #[.string nm, .int .i64 kd, .int .i64 al, .slice a1 nb c1, .int .i64 sz, .slice a2 nf c2] 51)) W0.heap.size 51 #[.string nm, .int .i64 kd, .int .i64 al, .slice a1 nb c1, .int .i64 sz, .slice a2 nf c2] := Has.new _ _ _
  have n0 := hh0.cell 0
  have HPN := hidden (putName_bld wB (W0.alloc (.cells #[.string nm, .int .i64 kd, .int .i64 al, .slice a1 nb c1, .int .i64 sz, .slice a2 nf c2] 51)) ta K tc TT L ht (h.alloc _) nm hs (by omega))
  obtain ⟨PN, hPN⟩ : ∃ PN, putList (placeIn TT nm) 2 = PN := ⟨_, rfl⟩
  have hPNs : PN.length ≤ 4 := by rw [← hPN]; exact putList_short _ _
  rw [hPN] at HPN ⊢
  have H63 : Hid ((L ++ PN).length + 4 * 4 ≤ 1000000) := by show _ ≤ _; rw [List.length_append]; omega
  have HH := hidden hh0
  have hkeep0 := hidden ((Keeps.refl W0).alloc (.cells #[.string nm, .int .i64 kd, .int .i64 al, .slice a1 nb c1, .int .i64 sz, .slice a2 nf c2] 51))
  clear h ht hs hsz h63 hPN hPNs hh0
  go_enter Tryz.func28, Tryz.ntmps28
  go_wp2_with fail
  refine HPN.out.mono ?_
  clear HPN
  rintro e w1 ⟨rfl, hb1, hk1⟩
  have hJ0 : Hid (JSec wB W0 (.slice ta K tc) (L ++ PN) (putAllN 1 [kd, al, long, (nf : Int)]) W0.heap.size 51 #[.string nm, .int .i64 kd, .int .i64 al, .slice a1 nb c1, .int .i64 sz, .slice a2 nf c2] long [kd, al, long, (nf : Int)] 0 w1.drew fun _ => .int .i64 long) := ⟨(hkeep0.out.trans hk1).trans (.below ⟨rfl, rfl, rfl, Nat.le_refl _, fun _ _ => rfl⟩), hb1.drew.below, (hk1.2 _ _ _ (by decide) (by decide) HH.out).drew, fun _ => hb1.drew, rfl, fun h => absurd h (by decide), fun h => absurd h (by decide)⟩
  clear hb1 hk1 HH hkeep0 n0
  go_upto_region 2 with fail
  refine wp_region_chain (m := 3) (js := [.quiet (.pointer (some ⟨wB.heap.size, 0, none⟩)) 3, .quiet (.pointer (some ⟨W0.heap.size, 1, none⟩)) 3, .quiet (.int .i64 kd) 3, .quiet (.pointer (some ⟨W0.heap.size, 2, none⟩)) 3, .quiet (.int .i64 al) 3, .quiet (.agg #[.string nm, .int .i64 kd, .int .i64 al, .slice a1 nb c1, .int .i64 sz, .slice a2 nf c2]) 3, .chain 0, .quiet (.pointer (some ⟨W0.heap.size, 5, none⟩)) 3, .quiet (.slice a2 nf c2) 3, .quiet (.int .i64 nf) 3, .chain 1, .chain 2]) (by kernel_rfl) (JSec wB W0 (.slice ta K tc) (L ++ PN) (putAllN 1 [kd, al, long, (nf : Int)]) W0.heap.size 51 #[.string nm, .int .i64 kd, .int .i64 al, .slice a1 nb c1, .int .i64 sz, .slice a2 nf c2] long [kd, al, long, (nf : Int)]) (by kernel_rfl) (by kernel_rfl) ⟨_, hJ0.out⟩ (fun vals => ?_) ?_
  · show SeqW _ _ _ _ _ _ _
    refine ⟨fun kk hkk W hW => ?_, ?_⟩
    · unfold Oper.wp
      simp [go_sem]
      try exact ⟨_, rfl, rfl⟩
    simp only [Act.put, List.setIfInBounds_toArray, List.set_cons_succ, List.set_cons_zero]
    refine ⟨fun kk hkk W hW => ?_, ?_⟩
    · unfold Oper.wp
      simp [go_sem]
      try exact ⟨_, rfl, rfl⟩
    simp only [Act.put, List.setIfInBounds_toArray, List.set_cons_succ, List.set_cons_zero]
    refine ⟨fun kk hkk W hW => ?_, ?_⟩
    · have q1 := (hW.has.cell 1 : W.cell? ⟨W0.heap.size, 1, none⟩ = some (.int .i64 kd))
      unfold Oper.wp
      simp [go_sem, q1]
      try exact ⟨_, rfl, rfl⟩
    simp only [Act.put, List.setIfInBounds_toArray, List.set_cons_succ, List.set_cons_zero]
    refine ⟨fun kk hkk W hW => ?_, ?_⟩
    · unfold Oper.wp
      simp [go_sem]
      try exact ⟨_, rfl, rfl⟩
    simp only [Act.put, List.setIfInBounds_toArray, List.set_cons_succ, List.set_cons_zero]
    refine ⟨fun kk hkk W hW => ?_, ?_⟩
    · have q1 := (hW.has.cell 2 : W.cell? ⟨W0.heap.size, 2, none⟩ = some (.int .i64 al))
      unfold Oper.wp
      simp [go_sem, q1]
      try exact ⟨_, rfl, rfl⟩
    simp only [Act.put, List.setIfInBounds_toArray, List.set_cons_succ, List.set_cons_zero]
    refine ⟨fun kk hkk W hW => ?_, ?_⟩
    · have q0 := (hW.has.cell 0 : W.cell? ⟨W0.heap.size, 0, none⟩ = some (.string nm))
      have q1 := (hW.has.cell 1 : W.cell? ⟨W0.heap.size, 1, none⟩ = some (.int .i64 kd))
      have q2 := (hW.has.cell 2 : W.cell? ⟨W0.heap.size, 2, none⟩ = some (.int .i64 al))
      have q3 := (hW.has.cell 3 : W.cell? ⟨W0.heap.size, 3, none⟩ = some (.slice a1 nb c1))
      have q4 := (hW.has.cell 4 : W.cell? ⟨W0.heap.size, 4, none⟩ = some (.int .i64 sz))
      have q5 := (hW.has.cell 5 : W.cell? ⟨W0.heap.size, 5, none⟩ = some (.slice a2 nf c2))
      unfold Oper.wp
      simp [go_sem, q0, q1, q2, q3, q4, q5]
      try exact ⟨_, rfl, rfl⟩
    simp only [Act.put, List.setIfInBounds_toArray, List.set_cons_succ, List.set_cons_zero]
    refine ⟨fun W hW => ?_, ?_⟩
    · unfold Oper.wp
      simp [go_sem]
      refine (HSZ.out W hW.below).mono ?_
      rintro e w' ⟨rfl, hb⟩
      have hN : JSec wB W0 (.slice ta K tc) (L ++ PN) (putAllN 1 [kd, al, long, (nf : Int)]) W0.heap.size 51 #[.string nm, .int .i64 kd, .int .i64 al, .slice a1 nb c1, .int .i64 sz, .slice a2 nf c2] long [kd, al, long, (nf : Int)] 1 w' (upd vals 0 (.int .i64 long)) := ⟨hW.keeps.trans (.below hb), hW.below.trans (hb.mono hW.below.size), hW.has.below hb hW.has.lt, fun _ => (hW.bld (by decide)).call hb, rfl, fun h => absurd h (by decide), fun h => absurd h (by decide)⟩
      first | exact hN | exact ⟨_, rfl, hN⟩
    simp only [Act.put, List.setIfInBounds_toArray, List.set_cons_succ, List.set_cons_zero]
    refine ⟨fun kk hkk W hW => ?_, ?_⟩
    · unfold Oper.wp
      simp [go_sem]
      try exact ⟨_, rfl, rfl⟩
    simp only [Act.put, List.setIfInBounds_toArray, List.set_cons_succ, List.set_cons_zero]
    refine ⟨fun kk hkk W hW => ?_, ?_⟩
    · have q1 := (hW.has.cell 5 : W.cell? ⟨W0.heap.size, 5, none⟩ = some (.slice a2 nf c2))
      unfold Oper.wp
      simp [go_sem, q1]
      try exact ⟨_, rfl, rfl⟩
    simp only [Act.put, List.setIfInBounds_toArray, List.set_cons_succ, List.set_cons_zero]
    refine ⟨fun kk hkk W hW => ?_, ?_⟩
    · unfold Oper.wp
      simp [go_sem]
      try exact ⟨_, rfl, rfl⟩
    simp only [Act.put, List.setIfInBounds_toArray, List.set_cons_succ, List.set_cons_zero]
    refine ⟨fun W hW => ?_, ?_⟩
    · have hN : JSec wB W0 (.slice ta K tc) (L ++ PN) (putAllN 1 [kd, al, long, (nf : Int)]) W0.heap.size 51 #[.string nm, .int .i64 kd, .int .i64 al, .slice a1 nb c1, .int .i64 sz, .slice a2 nf c2] long [kd, al, long, (nf : Int)] 2 (W.alloc (.cells #[.int .i64 kd, .int .i64 al, .int .i64 long, .int .i64 nf] 3)) (upd vals 1 (.slice (some ⟨W.heap.size, 0, none⟩) 4 4)) := ⟨hW.keeps.alloc _, hW.below.alloc hW.below.size _, hW.has.alloc _, fun _ => (hW.bld (by decide)).alloc _, hW.fix, fun _ => ⟨W.heap.size, rfl, Has.new _ _ _⟩, fun h => absurd h (by decide)⟩
      have q1 := hW.fix
      unfold Oper.wp
      simp [go_sem, q1]
      first | exact hN | exact ⟨_, rfl, hN⟩
    simp only [Act.put, List.setIfInBounds_toArray, List.set_cons_succ, List.set_cons_zero]
    refine ⟨fun W hW => ?_, trivial⟩
    obtain ⟨g, hv, hg⟩ := hW.arr rfl
    unfold Oper.wp
    simp [go_sem, hv]
    refine (putNumbers_bld wB W (.slice ta K tc) (L ++ PN) (hW.bld (by decide)) 1 g 4 4 _ rfl hg H63.out).mono ?_
    rintro e w' ⟨rfl, hb, hk⟩
    have hN : JSec wB W0 (.slice ta K tc) (L ++ PN) (putAllN 1 [kd, al, long, (nf : Int)]) W0.heap.size 51 #[.string nm, .int .i64 kd, .int .i64 al, .slice a1 nb c1, .int .i64 sz, .slice a2 nf c2] long [kd, al, long, (nf : Int)] 3 w' (upd vals 2 (.tuple #[])) := ⟨hW.keeps.trans hk, hb.below, hk.2 _ _ _ (by decide) (by decide) hW.has, fun h => absurd h (by decide), hW.fix, fun h => absurd h (by decide), fun _ => hb⟩
    first | exact hN | exact ⟨_, rfl, hN⟩
  · intro W vals hJ
    have HF : Hid (Built wB W0 (.slice ta K tc) (L ++ (PN ++ putAllN 1 [kd, al, long, (nf : Int)])) (.returned (.tuple #[])) W) := ⟨rfl, by rw [← List.append_assoc]; exact hJ.fin rfl, hJ.keeps⟩
    simp only [putAll, List.map_cons, List.map_nil, Job.val, Act.put, List.setIfInBounds_toArray, List.set_cons_succ, List.set_cons_zero]
    clear hJ hJ0 HSZ H63
    go_wp2_with fail
    go_end0
    exact HF.out
set_option maxRecDepth 100000 in
set_option maxHeartbeats 1000000 in
theorem putSymbol_bld (wB W0 : World) (ta : Option Addr) (K tc : Nat) (TT L : List Int) (ht : TabV wB ta K tc TT) (h : Bld wB (.slice ta K tc) L W0) (nm : ByteArray) (bd lo va : Int) (hs : nm.size ≤ maxLen) (hlo : -9223372036854775808 ≤ lo ∧ lo ≤ 9223372036854775805) (h63 : L.length + 20 ≤ 1000000) :
    Calls Tryz.prog 29 #[.pointer (some ⟨wB.heap.size, 0, none⟩), .agg #[.string nm, .int .i64 bd, .int .i64 lo, .int .i64 va]] W0 (Built wB W0 (.slice ta K tc) (L ++ (putList (placeIn TT nm) 2 ++ (putAllN 1 [bd, lo + 2] ++ putList va 2)))) := by
  obtain ⟨W, hW⟩ : ∃ W, W0.alloc (.cells #[.string nm, .int .i64 bd, .int .i64 lo, .int .i64 va] 56) = W := ⟨_, rfl⟩
  have hh0 : Has W W0.heap.size 56 #[.string nm, .int .i64 bd, .int .i64 lo, .int .i64 va] := by rw [← hW]; exact Has.new _ _ _
  have n0 := hh0.cell 0
  have hb0 : Bld wB (.slice ta K tc) L W := by rw [← hW]; exact h.alloc _
  have HPN := hidden (putName_bld wB W ta K tc TT L ht hb0 nm hs (by omega))
  obtain ⟨PN, hPN⟩ : ∃ PN, putList (placeIn TT nm) 2 = PN := ⟨_, rfl⟩
  obtain ⟨PV, hPV⟩ : ∃ PV, putList va 2 = PV := ⟨_, rfl⟩
  obtain ⟨PB, hPB⟩ : ∃ PB, putAllN 1 [bd, lo + 2] = PB := ⟨_, rfl⟩
  have hPNs : PN.length ≤ 4 := by rw [← hPN]; exact putList_short _ _
  have hPBs : PB.length ≤ 8 := by rw [← hPB]; exact putAllN_short _ _
  rw [hPN] at HPN
  rw [hPN, hPV, hPB]
  have H1 : Hid ((L ++ PN).length + 4 * 2 ≤ 1000000) := by show _ ≤ _; rw [List.length_append]; omega
  have H2 : Hid ((L ++ PN ++ PB).length + 4 * 1 ≤ 1000000) := by show _ ≤ _; rw [List.length_append, List.length_append]; omega
  have HPV : Hid (putAllN 2 [va] = PV) := by show _ = _; simp [putAllN, hPV]
  have HPB := hidden hPB
  have hw : IntKind.i64.wrap (lo + 2) = lo + 2 := IntWalk.i64_in _ (by omega)
  have HH := hidden hh0
  have HK0 : Hid (Keeps W0 W) := by show Keeps _ _; rw [← hW]; exact (Keeps.refl _).alloc _
  have HW := hidden hW
  clear h ht hs h63 hPN hPNs hPV hPB hPBs hh0 hb0 hlo hW
  go_enter Tryz.func29, Tryz.ntmps29
  go_wp2_with fail
  rw [HW.out]
  refine HPN.out.mono ?_
  clear HPN n0
  rintro e w1 ⟨rfl, hb1, hk1⟩
  have hh1 := hk1.2 _ _ _ (by decide) (by decide) HH.out
  have n1 : w1.cell? ⟨W0.heap.size, 1, none⟩ = some (.int .i64 bd) := hh1.cell 1
  have n2 : w1.cell? ⟨W0.heap.size, 2, none⟩ = some (.int .i64 lo) := hh1.cell 2
  have HP2 := hidden (putNumbers_bld wB (w1.alloc (.cells #[.int .i64 bd, .int .i64 (lo + 2)] 3)) (.slice ta K tc) (L ++ PN) (hb1.alloc _) 1 w1.heap.size 2 2 [bd, lo + 2] rfl (Has.new _ _ _) H1.out)
  have HK1 := hidden ((HK0.out.trans hk1).alloc (.cells #[.int .i64 bd, .int .i64 (lo + 2)] 3))
  have HH1 := hidden (hh1.alloc (.cells #[.int .i64 bd, .int .i64 (lo + 2)] 3))
  rw [HPB.out] at HP2
  clear hb1 hk1 hh1 HH HK0 H1
  go_wp2_with fail
  refine HP2.out.mono ?_
  clear HP2 n1 n2
  rintro e w2 ⟨rfl, hb2, hk2⟩
  have hh2 := hk2.2 _ _ _ (by decide) (by decide) HH1.out
  have n3 : w2.cell? ⟨W0.heap.size, 3, none⟩ = some (.int .i64 va) := hh2.cell 3
  have HP3 := hidden (putNumbers_bld wB (w2.alloc (.cells #[.int .i64 va] 3)) (.slice ta K tc) (L ++ PN ++ PB) (hb2.alloc _) 2 w2.heap.size 1 1 [va] rfl (Has.new _ _ _) H2.out)
  have HK2 := hidden ((HK1.out.trans hk2).alloc (.cells #[.int .i64 va] 3))
  rw [HPV.out] at HP3
  clear hb2 hk2 hh2 HH1 HK1 H2
  go_wp2_with fail
  refine HP3.out.mono ?_
  clear HP3 n3
  rintro e w3 ⟨rfl, hb3, hk3⟩
  have HF : Hid (Built wB W0 (.slice ta K tc) (L ++ (PN ++ (PB ++ PV))) (.returned (.tuple #[])) w3) := ⟨rfl, by rw [← List.append_assoc, ← List.append_assoc]; exact hb3, HK2.out.trans hk3⟩
  clear hb3 hk3 HK2
  go_wp2_with fail
  go_end0
  exact HF.out
/-- The bytes of a fixup, as they are put. -/
def fixPut (f : Fx) : List Int := putAllN 1 [f.pl, f.kind, f.to] ++ putList (f.add + 1000) 2
theorem fixPut_short (f : Fx) : (fixPut f).length ≤ 16 := by
  have h1 := putAllN_short 1 [f.pl, f.kind, f.to]
  have h2 := putList_short (f.add + 1000) 2
  unfold fixPut
  rw [List.length_append]
  simp only [List.length_cons, List.length_nil] at h1
  omega
theorem fixPuts_short : ∀ fs : List Fx, (fs.flatMap fixPut).length ≤ 16 * fs.length
  | [] => by simp
  | f :: r => by
    have h1 := fixPuts_short r
    have h2 := fixPut_short f
    rw [List.flatMap_cons, List.length_append, List.length_cons]
    omega
set_option maxRecDepth 100000 in
set_option maxHeartbeats 2000000 in
theorem putFixups_bld (wB W0 : World) (tv : Value) (L : List Int) (h : Bld wB tv L W0) (B : Nat) (a : Option Addr) (c m : Nat) (fs : List Fx) (hm : m = fs.length) (h2 : Fixs wB B a fs) (hB : B ≤ wB.heap.size) (hadd : ∀ f ∈ fs, -1000 ≤ f.add ∧ f.add ≤ 1000) (h63 : L.length + 16 * m ≤ 1000000) :
    Calls Tryz.prog 30 #[.pointer (some ⟨wB.heap.size, 0, none⟩), .slice a m c] W0 (Built wB W0 tv (L ++ fs.flatMap fixPut)) := by
  have H := hidden h
  have HM := hidden hm
  have H2 := hidden h2
  have HA := hidden hadd
  have H63 := hidden h63
  have hm6 : m ≤ 250000 := by omega
  clear h hm h2 hadd h63
  go_enter Tryz.func30, Tryz.ntmps30
  go_wp2_with fail
  go_loopw [8] (fun i wr => ∃ j : Nat, i = .int .i64 j ∧ j ≤ m ∧ Hid (Bld wB tv (L ++ (fs.take j).flatMap fixPut) wr) ∧ Hid (Keeps W0 wr)) (fun i _ => m - (intOf i).toNat)
  case atStart => exact ⟨0, rfl, Nat.zero_le _, (by show Bld _ _ _ _; simpa using H.out), Keeps.refl _⟩
  case round =>
    obtain ⟨j, rfl, hj, hb, hk⟩ := hrel
    by_cases hlt : j < m
    · have hi : (j : Int) < (m : Int) := by omega
      have hjl : j < fs.length := by rw [← HM.out]; exact hlt
      obtain ⟨b, off, rfl, hbB, p0, p1, p2, p3⟩ := (H2.out.below (hb.out.below.mono hB)).at_ hjl
      obtain ⟨f, hf⟩ : ∃ f, fs[j] = f := ⟨_, rfl⟩
      rw [hf] at p0 p1 p2 p3
      have hf2 : fs[j]? = some f := by rw [List.getElem?_eq_getElem hjl, hf]
      have hfa := HA.out f (by rw [← hf]; exact List.getElem_mem hjl)
      have HN := hidden (flat_snoc fixPut hf2)
      have hsh : ((fs.take j).flatMap fixPut).length ≤ 16 * j := by
        have := fixPuts_short (fs.take j)
        rw [List.length_take] at this
        omega
      obtain ⟨L0, hL0⟩ : ∃ L0, L ++ (fs.take j).flatMap fixPut = L0 := ⟨_, rfl⟩
      have hL0s : L0.length ≤ L.length + 16 * j := by rw [← hL0, List.length_append]; omega
      rw [hL0] at hb
      have HL0 := hidden hL0
      clear hf hf2 hjl hsh hL0
      obtain ⟨pl, kd, tg, ad⟩ := f
      simp only at p0 p1 p2 p3 hfa
      have HFP : Hid (fixPut ⟨pl, kd, tg, ad⟩ = putAllN 1 [pl, kd, tg] ++ putAllN 2 [ad + 1000]) := by show _ = _; simp [fixPut, putAllN]
      obtain ⟨P1, hP1⟩ : ∃ P1, putAllN 1 [pl, kd, tg] = P1 := ⟨_, rfl⟩
      have hP1s : P1.length ≤ 12 := by rw [← hP1]; exact putAllN_short _ _
      rw [hP1] at HFP
      have HP1 := hidden hP1
      have HS1 : Hid (L0.length + 4 * 3 ≤ 1000000) := by show _ ≤ _; have := H63.out; omega
      have HS2 : Hid ((L0 ++ P1).length + 4 * 1 ≤ 1000000) := by show _ ≤ _; rw [List.length_append]; have := H63.out; omega
      have hw : IntKind.i64.wrap (ad + 1000) = ad + 1000 := IntWalk.i64_in _ (by omega)
      have HH := hidden (Has.new wr 58 #[.int .i64 pl, .int .i64 kd, .int .i64 tg, .int .i64 ad])
      have HBA := hidden ((hb.out.alloc (.cells #[.int .i64 pl, .int .i64 kd, .int .i64 tg, .int .i64 ad] 58)).alloc (.cells #[.int .i64 pl, .int .i64 kd, .int .i64 tg] 3))
      have HKA := hidden ((hk.out.alloc (.cells #[.int .i64 pl, .int .i64 kd, .int .i64 tg, .int .i64 ad] 58)).alloc (.cells #[.int .i64 pl, .int .i64 kd, .int .i64 tg] 3))
      have HHA := hidden (HH.out.alloc (.cells #[.int .i64 pl, .int .i64 kd, .int .i64 tg] 3))
      have hsz1 : (wr.alloc (.cells #[.int .i64 pl, .int .i64 kd, .int .i64 tg, .int .i64 ad] 58)).heap.size = wr.heap.size + 1 := by simp
      have hg1 : Has ((wr.alloc (.cells #[.int .i64 pl, .int .i64 kd, .int .i64 tg, .int .i64 ad] 58)).alloc (.cells #[.int .i64 pl, .int .i64 kd, .int .i64 tg] 3)) (wr.heap.size + 1) 3 ([pl, kd, tg].map (Value.int .i64)).toArray := hsz1 ▸ Has.new _ _ _
      have HC1 := hidden (putNumbers_bld wB _ tv L0 HBA.out 1 (wr.heap.size + 1) 3 3 [pl, kd, tg] rfl hg1 HS1.out)
      rw [HP1.out] at HC1
      have hwr : wr.heap.size < (wr.alloc (.cells #[.int .i64 pl, .int .i64 kd, .int .i64 tg, .int .i64 ad] 58)).heap.size := HH.out.lt
      clear hb hk hP1 hP1s hL0s hfa hsz1 hg1
      go_wp2_with fail
      refine HC1.out.mono ?_
      clear HC1 p0 p1 p2 p3
      rintro e w1 ⟨rfl, hb1, hk1⟩
      have hh1 := hk1.2 _ _ _ (by decide) (by decide) HHA.out
      have n3 : w1.cell? ⟨wr.heap.size, 3, none⟩ = some (.int .i64 ad) := hh1.cell 3
      have HC2 := hidden (putNumbers_bld wB (w1.alloc (.cells #[.int .i64 (ad + 1000)] 3)) tv (L0 ++ P1) (hb1.alloc _) 2 w1.heap.size 1 1 [ad + 1000] rfl (Has.new _ _ _) HS2.out)
      have HK1 := hidden ((HKA.out.trans hk1).alloc (.cells #[.int .i64 (ad + 1000)] 3))
      clear hb1 hk1 hh1 HBA HKA HHA HH HS1 HS2
      go_wp2_with fail
      refine HC2.out.mono ?_
      clear HC2 n3
      rintro e w2 ⟨rfl, hb2, hk2⟩
      have HB2 : Hid (Bld wB tv (L ++ (fs.take (j + 1)).flatMap fixPut) w2) := by show Bld _ _ _ _; rw [HN.out, HFP.out, ← List.append_assoc, HL0.out, ← List.append_assoc]; exact hb2
      have HK2 := hidden (HK1.out.trans hk2)
      clear hb2 hk2 HK1 HN HFP HL0 hw hwr
      go_wp2_with fail
      go_roundw
      case rel => exact ⟨j + 1, by go_num, by omega, HB2, HK2⟩
      case measure => simp [intOf]; omega
    · have hi : ¬ (j : Int) < (m : Int) := by omega
      have HF : Hid (Built wB W0 tv (L ++ fs.flatMap fixPut) (.returned (.tuple #[])) wr) := by
        have e : fs.take j = fs := List.take_of_length_le (by rw [← HM.out]; omega)
        have := hb.out
        rw [e] at this
        exact ⟨rfl, this, hk.out⟩
      clear hb hk
      go_wp2_with fail
      go_end0
      exact HF.out
end Go.Proofs.YtjafekjcncmjjaaGreat

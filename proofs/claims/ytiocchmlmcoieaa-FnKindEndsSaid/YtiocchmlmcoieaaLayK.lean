/-
  (*impl.layout).placeKind: the sections of a kind are placed.
-/
import Derived.Test.YtiocchmlmcoieaaLayI
namespace Go.Proofs.Ytiocchmlmcoieaa
open Go.RowKit

/-- A layout in memory. -/
structure LO (W : World) (g lo : Nat) (vp ve : Value) (e : Int) (rs es : List Rn) : Prop where
  obj : Has W g 60 #[vp, ve, .int .i64 e]
  pr : Rw W lo vp rs
  er : Rw W lo ve es
  two : vp.ownBlock = none ∨ vp.ownBlock ≠ ve.ownBlock
  sep : ∀ x ∈ rs, ∀ y ∈ es, x.g ≠ y.g
/-- The lists of sections stay. -/
def KeepL (W W' : World) : Prop := ∀ b cs, Has W b 121 cs → Has W' b 121 cs
theorem KeepL.refl (W : World) : KeepL W W := fun _ _ h => h
theorem KeepL.trans {a b c : World} (h : KeepL a b) (k : KeepL b c) : KeepL a c := fun q cs hh => k q cs (h q cs hh)
theorem KeepL.below {a b : World} (h : Below a.heap.size a b) : KeepL a b := fun _ _ hh => hh.below h hh.lt
theorem KeepL.put {a : World} {q : Nat} {T : TypeId} {cs : Array Value} (hq : Has a q T cs) (hT : T ≠ 121) (j : Nat) (u : Value) : KeepL a (a.setCell ⟨q, j, none⟩ u) := fun _ _ hh => hh.away (p := ⟨q, j, none⟩) (hh.differ hq (Ne.symm hT)) u
theorem KeepL.row {a b : World} (h : KeepL a b) {base n : Nat} {v : Value} {xs : List Value} (hr : a.ownsRow base 121 8 v n xs) : b.ownsRow base 121 8 v n xs := by
  refine ⟨hr.1, ?_⟩
  rcases hr.2 with h0 | ⟨g, cap, cur, h1, h2, h3, h4⟩
  · exact .inl h0
  · exact .inr ⟨g, cap, cur, h1, h2, h g cur h3, h4⟩
theorem KeepL.grown {a b : World} {base n : Nat} {v : Value} {xs : List Value} (hg : a.grownBy b v.ownBlock) (hr : a.ownsRow base 39 1 v n xs) : KeepL a b := fun _ _ hh => hh.grown hg (hh.other hr (by decide))
/-- A number elsewhere is written. -/
theorem Rw.apartPut {W : World} {lo : Nat} {v : Value} {l : List Rn} (h : Rw W lo v l) {q : Nat} {cs : Array Value} (hq : Has W q 3 cs) (hne : ∀ y ∈ l, y.g ≠ q) (j : Nat) (u : Value) : Rw (W.setCell ⟨q, j, none⟩ u) lo v l :=
  ⟨h.row.kept (only_put' j u) (row_apart h.row hq (by decide)), fun x hx => ⟨(h.vals x hx).1, (h.vals x hx).2.away (p := ⟨q, j, none⟩) (hne x hx) u⟩, h.apart⟩
section
variable {W W' : World} {g lo : Nat} {vp ve : Value} {e : Int} {rs es : List Rn}
theorem LO.only (h : LO W g lo vp ve e rs es) (hb : Below W.heap.size W W') : LO W' g lo vp ve e rs es := ⟨h.obj.below hb h.obj.lt, h.pr.only hb, h.er.only hb, h.two, h.sep⟩
theorem LO.alloc (h : LO W g lo vp ve e rs es) (o : Obj) : LO (W.alloc o) g lo vp ve e rs es := h.only ((Below.refl _ _).alloc (Nat.le_refl _) o)
theorem LO.drew (h : LO W g lo vp ve e rs es) : LO W.drew g lo vp ve e rs es := h.only ⟨rfl, rfl, rfl, Nat.le_refl _, fun _ _ => rfl⟩
theorem LO.setE (h : LO W g lo vp ve e rs es) (e' : Int) : LO (W.setCell ⟨g, 2, none⟩ (.int .i64 e')) g lo vp ve e' rs es :=
  ⟨h.obj.put 2 _, h.pr.other h.obj (by decide) (by decide) (only_put' 2 _), h.er.other h.obj (by decide) (by decide) (only_put' 2 _), h.two, h.sep⟩
theorem LO.num (h : LO W g lo vp ve e rs es) {k : Nat} {x : Rn} (hk : rs[k]? = some x) (j : Nat) (z : Int) : LO (W.setCell ⟨x.g, j, none⟩ (.int .i64 z)) g lo vp ve e (rs.set k ⟨x.g, x.r.set j z⟩) es := by
  have hx := (h.pr.vals x (List.mem_of_getElem? hk)).2
  refine ⟨h.obj.away (p := ⟨x.g, j, none⟩) (h.obj.differ hx (by decide)) _, h.pr.set hk, h.er.apartPut hx (fun y hy => Ne.symm (h.sep x (List.mem_of_getElem? hk) y hy)) j _, h.two, fun y hy => ?_⟩
  rcases List.mem_or_eq_of_mem_set hy with q | q
  · exact h.sep y q
  · rw [q]; exact h.sep x (List.mem_of_getElem? hk)
theorem LO.ends (h : LO W g lo vp ve e rs es) {x : Rn} (hx : Has W x.g 3 x.cells) (hlo : lo ≤ x.g) (hr1 : ∀ y ∈ rs, y.g ≠ x.g) (hr2 : ∀ y ∈ es, y.g ≠ x.g) {v' : Value} (hr : W'.ownsRow lo 39 1 v' (es.length + 1) (es.map Rn.val ++ [x.val])) (hg : W.grownBy W' ve.ownBlock)
    (hf : v'.ownBlock = ve.ownBlock ∨ W'.ownsRow W.heap.size 39 1 v' (es.length + 1) (es.map Rn.val ++ [x.val])) : Has W' g 60 #[vp, ve, .int .i64 e] ∧ LO (W'.setCell ⟨g, 1, none⟩ v') g lo vp v' e rs (es ++ [x]) := by
  have ho : Has W' g 60 #[vp, ve, .int .i64 e] := h.obj.grown hg (h.obj.other h.er.row (by decide))
  have hp : Rw W' lo vp rs := h.pr.beside hg h.two (fun q hq => by
    rcases h.er.row.2 with ⟨e, _⟩ | ⟨g, cap, cur, e, _, hh, _⟩
    · rw [e] at hq; cases hq
    · rw [e] at hq
      injection hq with hq
      subst hq
      exact ⟨_, _, hh, by decide⟩)
  have hq := h.er.app hx hlo hr2 hr hg
  refine ⟨ho, ho.put 1 _, hp.other ho (by decide) (by decide) (only_put' 1 _), hq.other ho (by decide) (by decide) (only_put' 1 _), ?_, fun y hy z hz => ?_⟩
  · rcases hf with hf | hf
    · rw [hf]; exact h.two
    · rcases hv : vp.ownBlock with _ | q
      · exact .inl rfl
      · refine .inr fun e => ?_
        have h1 := (hf.lt q e.symm).1
        have h2 := (h.pr.row.lt q hv).2
        omega
  · rcases List.mem_append.1 hz with hz | hz
    · exact h.sep y hy z hz
    · rw [List.mem_singleton.1 hz]; exact hr1 y hy
end
/-- Around one store. -/
def JSt (A B : World) : Nat → World → (Nat → Value) → Prop
  | 0, W, _ => W = A
  | _, W, _ => W = B
theorem JSt.either {A B : World} {k : Nat} {W : World} {vals : Nat → Value} (h : JSt A B k W vals) : W = A ∨ W = B := by
  match k, h with
  | 0, h => exact .inl h
  | k + 1, h => exact .inr h
/-- Around the ends of a kind. -/
def JEnd (A : World) (F E : Int) (PE : World → Value → Prop) (ZE : World → Prop) : Nat → World → (Nat → Value) → Prop
  | 0, W, _ => W = A
  | 1, W, vals => W = A.alloc (.cells #[.int .i64 F, .int .i64 E] 3) ∧ vals 0 = .slice (some ⟨A.heap.size, 0, none⟩) 2 2
  | 2, W, vals => W = (A.alloc (.cells #[.int .i64 F, .int .i64 E] 3)).alloc (.cells #[.slice (some ⟨A.heap.size, 0, none⟩) 2 2] 39) ∧ vals 1 = .slice (some ⟨A.heap.size + 1, 0, none⟩) 1 1
  | 3, W, vals => PE W (vals 2)
  | _, W, _ => ZE W
theorem JEnd.low {A : World} {F E : Int} {PE : World → Value → Prop} {ZE : World → Prop} {k : Nat} {W : World} {vals : Nat → Value} (h : JEnd A F E PE ZE k W vals) (hk : k ≤ 2) : Below A.heap.size A W := by
  match k, h, hk with
  | 0, h, _ => rw [h]; exact Below.refl _ _
  | 1, h, _ => rw [h.1]; exact (Below.refl _ _).alloc (Nat.le_refl _) _
  | 2, h, _ => rw [h.1]; exact ((Below.refl _ _).alloc (Nat.le_refl _) _).alloc (by simp) _
def PEk (g ne : Nat) (vp ve : Value) (E : Int) (X : World → Value → Prop) (W : World) (u : Value) : Prop :=
  ∃ (b9 : Option Addr) (d9 : Nat), u = .slice b9 (ne + 1) d9 ∧ Has W g 60 #[vp, ve, .int .i64 E] ∧ X (W.setCell ⟨g, 1, none⟩ (.slice b9 (ne + 1) d9)) (.slice b9 (ne + 1) d9)
def ZEk (ne : Nat) (X : World → Value → Prop) (W : World) : Prop := ∃ (b9 : Option Addr) (d9 : Nat), X W (.slice b9 (ne + 1) d9)
/-- What placing a kind leaves. -/
def PlacedK (W : World) (B g lo : Nat) (vp : Value) (es : List Rn) (F : Int) (y : Lo) (e : Ending) (W' : World) : Prop :=
  e = .returned (.tuple #[]) ∧ ∃ (ea : Option Addr) (ec : Nat) (rs' es' : List Rn), LO W' g lo vp (.slice ea (es.length + 1) ec) y.e rs' es' ∧ rs'.map Rn.r = y.pl ∧ es'.map Rn.r = es.map Rn.r ++ [[F, y.e]] ∧ Below B W W' ∧ KeepL W W'
set_option maxRecDepth 100000 in
set_option maxHeartbeats 8000000 in
theorem placeKind_any (W0 : World) (B g lo : Nat) (pa : Option Addr) (NP pc : Nat) (ea : Option Addr) (ne ec : Nat) (e : Int) (rs es : List Rn) (h : LO W0 g lo (.slice pa NP pc) (.slice ea ne ec) e rs es) (hne : es.length = ne) (hB : B ≤ lo) (hBg : B ≤ g) (hlo : lo ≤ W0.heap.size) (hne2 : ne ≤ 100)
    (a : Option Addr) (c n : Nat) (Ps : List Pl) (hn : Ps.length = n) (hn2 : n ≤ 1000) (hrow : W0.ownsRow lo 121 8 (.slice a n c) n (flatP Ps)) (hin : ∀ p ∈ Ps, inR (rs.map fun x => x.r.length) p.pk) (hnp : rs.length = NP)
    (hS : ∀ p ∈ Ps, (Ints W0 .u8 B p.y.a1 p.y.s.bytes ∧ Fixs W0 B p.y.a2 p.y.s.fixs) ∧ p.y.s.fits ∧ 0 ≤ p.y.s.long ∧ p.y.s.long ≤ 48) (F : Int) (hF : upTo e 8 = F) (y : Lo) (hy : (⟨rs.map Rn.r, F⟩ : Lo).run (Ps.map Pl.pk) = y) :
    Calls Try.prog 57 #[.pointer (some ⟨g, 0, none⟩),   .slice a n c] W0 (PlacedK W0 B g lo (.slice pa NP pc) es F y) := by
  have HA := hidden (fun W => alignUp_any e 8 W)
  rw [hF] at HA
  have e2 : W0.cell? ⟨g, 2, none⟩ = some (.int .i64 e) := h.obj.cell 2
  have f2 : W0.frozen? ⟨g, 2, none⟩ = false := h.obj.free 2
  have h1 := h.setE F
  have hb1 : Below B W0 (W0.setCell ⟨g, 2, none⟩ (.int .i64 F)) := (Below.refl B W0).setCell (p := ⟨g, 2, none⟩) hBg _
  have hk1 : KeepL W0 (W0.setCell ⟨g, 2, none⟩ (.int .i64 F)) := KeepL.put h.obj (by decide) 2 _
  obtain ⟨W1, hW1⟩ : ∃ q, W0.setCell ⟨g, 2, none⟩ (.int .i64 F) = q := ⟨_, rfl⟩
  rw [hW1] at h1 hb1 hk1
  have i2 : W1.cell? ⟨g, 2, none⟩ = some (.int .i64 F) := h1.obj.cell 2
  have HW1 := hidden hW1
  have HL0 := hidden h1
  have HB0 := hidden hb1
  have HK0 := hidden hk1
  have HN := hidden hn
  have HROW := hidden hrow
  have HIN := hidden hin
  have HS := hidden hS
  have HY := hidden hy
  have HNP := hidden hnp
  have HNE := hidden hne
  have HY0 : Hid ((⟨rs.map Rn.r, F⟩ : Lo).run ((Ps.take 0).map Pl.pk) = ⟨rs.map Rn.r, F⟩) := rfl
  have HLEN : Hid (rs.map (fun x => x.r.length) = rs.map (fun x => x.r.length)) := rfl
  obtain ⟨pl0, hpl0⟩ : ∃ q, rs.map Rn.r = q := ⟨_, rfl⟩
  obtain ⟨ln0, hln0⟩ : ∃ q, rs.map (fun x => x.r.length) = q := ⟨_, rfl⟩
  have HP0 := hidden hpl0
  have HLN0 := hidden hln0
  rw [hpl0] at HY HY0
  rw [hln0] at HIN
  clear h hF h1 hb1 hk1 hW1 hn hrow hin hS hy hnp hne hpl0 hln0 HLEN
  go_enter Try.func57, Try.ntmps57
  go_wp2_with fail
  refine (HA.out _).mono ?_
  clear HA
  rintro e' w' ⟨rfl, rfl⟩
  go_upto_region 1 with fail
  rw [HW1.out]
  clear e2 f2
  go_wp2_with fail
  clear i2
  go_loopw [22] (fun i wr => ∃ (t : Nat) (E : Int) (rs : List Rn), i = .int .i64 t ∧ t ≤ n ∧ Hid (LO wr g lo (.slice pa NP pc) (.slice ea ne ec) E rs es) ∧ Hid (Below B W0 wr) ∧ Hid (KeepL W0 wr) ∧ Hid ((⟨pl0, F⟩ : Lo).run ((Ps.take t).map Pl.pk) = ⟨rs.map Rn.r, E⟩) ∧ Hid (rs.map (fun x => x.r.length) = ln0)) (fun i _ => n - (intOf i).toNat)
  case atStart => exact ⟨0, F, rs, rfl, Nat.zero_le _, HL0, HB0, HK0, (by show _ = _; rw [HY0.out, ← HP0.out]), HLN0⟩
  case round =>
    clear HL0 HB0 HK0 HY0 HP0 HLN0
    obtain ⟨t, E, rs, rfl, ht, hL, hb, hk, hY, hLN⟩ := hrel
    by_cases htn : t < n
    · have hit : (t : Int) < (n : Int) := by omega
      have htl : t < Ps.length := by rw [HN.out]; exact htn
      obtain ⟨pp, hpp⟩ : ∃ q, Ps[t] = q := ⟨_, rfl⟩
      have hpt : Ps[t]? = some pp := by rw [List.getElem?_eq_getElem htl, hpp]
      have hpm := List.mem_of_getElem? hpt
      -- the cells of the section in its list
      have hrow := KeepL.row hk.out HROW.out
      obtain ⟨b3, ha3, hc3⟩ : ∃ b3, a = some ⟨b3, 0, none⟩ ∧ ∀ i u, i < 8 → pp.cells[i]? = some u → wr.cell? ⟨b3, t * 8 + i, none⟩ = some u := by
        rcases hrow.2 with ⟨_, h0⟩ | ⟨q, cap, cur, ev, _, hh, _⟩
        · omega
        · have e1 := (Value.slice.inj ev).1
          have e3 := (Value.slice.inj ev).2.2
          subst e1
          refine ⟨q, rfl, fun i u hi hu => ?_⟩
          rw [World.ownsRow.cellAt hrow (t * 8 + i) (by omega), flatP_at Ps t pp hpt i hi]
          exact hu
      have hin := HIN.out pp hpm
      rw [← hLN.out] at hin
      obtain ⟨⟨hs1, hs2⟩, hsf, hlg0, hlg1⟩ := HS.out pp hpm
      have hlen : rs.length = NP := by
        have h1 := congrArg List.length hLN.out
        rw [List.length_map] at h1
        have h2 := hL.out.pr.row.2
        rcases h2 with ⟨ev, h0⟩ | ⟨_, _, _, ev, _⟩
        · have := (Value.slice.inj ev).2.1; omega
        · have := (Value.slice.inj ev).2.1; omega
      obtain ⟨p, j, z⟩ := pp
      obtain ⟨hp1, hp2⟩ := hin
      change p < _ at hp1
      change j < _ at hp2
      rw [List.length_map] at hp1
      obtain ⟨x, hx⟩ : ∃ x, rs[p]? = some x := ⟨_, List.getElem?_eq_getElem hp1⟩
      have hp2' : j < x.r.length := by
        change j < (rs.map fun x => x.r.length).getD p 0 at hp2
        rw [List.getD_eq_getElem?_getD, List.getElem?_map, hx] at hp2
        exact hp2
      have HTK : Hid ((⟨pl0, F⟩ : Lo).run ((Ps.take (t + 1)).map Pl.pk) = ((⟨pl0, F⟩ : Lo).run ((Ps.take t).map Pl.pk)).step ⟨p, j, z.s⟩) := by
        show _ = _
        rw [List.take_add_one, hpt, List.map_append]
        exact Lo.run_snoc _ _ _
      have HSZ := hidden (fun (W' : World) (hW' : Below B W0 W') (hBW : B ≤ W'.heap.size) => wantSectionSize W' B z.s z.a1 z.c1 z.a2 z.c2 (hs1.below hW') (hs2.below hW') hBW hsf)
      unfold Sx.agg at HSZ
      obtain ⟨lg, hlg⟩ : ∃ q, z.s.long = q := ⟨_, rfl⟩
      change 0 ≤ z.s.long at hlg0
      change z.s.long ≤ 48 at hlg1
      rw [hlg] at HSZ hlg0 hlg1
      have hLG := hidden hlg
      obtain ⟨⟨nm, kd, al, bs, sz, fs⟩, z1, d1, z2, d2⟩ := z
      have k0 := hc3 0 _ (by omega) rfl
      have k1 := hc3 1 _ (by omega) rfl
      have k2 := hc3 2 _ (by omega) rfl
      have k3 := hc3 3 _ (by omega) rfl
      have k4 := hc3 4 _ (by omega) rfl
      have k5 := hc3 5 _ (by omega) rfl
      have k6 := hc3 6 _ (by omega) rfl
      have k7 := hc3 7 _ (by omega) rfl
      dsimp only at k0 k1 k2 k3 k4 k5 k6 k7 HSZ hLG HTK
      obtain ⟨nb, hnb⟩ : ∃ q, bs.length = q := ⟨_, rfl⟩
      obtain ⟨nf, hnf⟩ : ∃ q, fs.length = q := ⟨_, rfl⟩
      rw [hnb] at k5 HSZ
      rw [hnf] at k7 HSZ
      rw [Nat.add_zero] at k0
      obtain ⟨U, hU⟩ : ∃ q, upTo E al = q := ⟨_, rfl⟩
      have hUb := upTo_bd E al
      rw [hU] at hUb
      have HA := hidden (fun W => alignUp_any E al W)
      rw [hU] at HA
      have HNX : Hid ((⟨pl0, F⟩ : Lo).run ((Ps.take (t + 1)).map Pl.pk) = ⟨put2 (rs.map Rn.r) p j U, U + lg⟩) := by
        show _ = _
        rw [HTK.out, hY.out]
        unfold Lo.step
        dsimp only
        rw [hU, hLG.out]
      obtain ⟨W2, hW2⟩ : ∃ q, wr.alloc (.cells #[.int .i64 (p : Int), .int .i64 (j : Int), .string nm, .int .i64 kd, .int .i64 al, .slice z1 nb d1, .int .i64 sz, .slice z2 nf d2] 121) = q := ⟨_, rfl⟩
      obtain ⟨bx, hbx⟩ : ∃ q, wr.heap.size = q := ⟨_, rfl⟩
      have hL2 := hL.out.alloc (.cells #[.int .i64 (p : Int), .int .i64 (j : Int), .string nm, .int .i64 kd, .int .i64 al, .slice z1 nb d1, .int .i64 sz, .slice z2 nf d2] 121)
      have hBW : B ≤ wr.heap.size := Nat.le_trans hB (Nat.le_trans hlo hb.out.size)
      have hb2 := hb.out.alloc hBW (.cells #[.int .i64 (p : Int), .int .i64 (j : Int), .string nm, .int .i64 kd, .int .i64 al, .slice z1 nb d1, .int .i64 sz, .slice z2 nf d2] 121)
      have hk2 : KeepL W0 (wr.alloc (.cells #[.int .i64 (p : Int), .int .i64 (j : Int), .string nm, .int .i64 kd, .int .i64 al, .slice z1 nb d1, .int .i64 sz, .slice z2 nf d2] 121)) := hk.out.trans (KeepL.below ((Below.refl _ _).alloc (Nat.le_refl _) _))
      have hS2 : Has (wr.alloc (.cells #[.int .i64 (p : Int), .int .i64 (j : Int), .string nm, .int .i64 kd, .int .i64 al, .slice z1 nb d1, .int .i64 sz, .slice z2 nf d2] 121)) wr.heap.size 121 #[.int .i64 (p : Int), .int .i64 (j : Int), .string nm, .int .i64 kd, .int .i64 al, .slice z1 nb d1, .int .i64 sz, .slice z2 nf d2] := Has.new _ _ _
      rw [hW2] at hL2 hb2 hk2
      rw [hW2, hbx] at hS2
      have HC : Hid (∀ W', Below W2.heap.size W2 W' → (LO W' g lo (.slice pa NP pc) (.slice ea ne ec) E rs es ∧ Has W' bx 121 #[.int .i64 (p : Int), .int .i64 (j : Int), .string nm, .int .i64 kd, .int .i64 al, .slice z1 nb d1, .int .i64 sz, .slice z2 nf d2]) ∧ Below B W0 W' ∧ KeepL W0 W') := fun W' hW' => ⟨⟨hL2.only hW', hS2.below hW' hS2.lt⟩, hb2.trans (hW'.mono (Nat.le_trans hBW (by rw [← hW2]; simp))), hk2.trans (KeepL.below hW')⟩
      have HW2 := hidden hW2
      have HBX := hidden hbx
      have HX := hidden hx
      have HTN := hidden htn
      have hpN : (p : Int) < (NP : Int) := by omega
      obtain ⟨xl, hxl⟩ : ∃ q, x.r.length = q := ⟨_, rfl⟩
      rw [hxl] at hp2'
      have hjx : (j : Int) < (xl : Int) := by omega
      have HXL := hidden hxl
      subst ha3
      clear htl hpp hpt hpm hrow hc3 hs1 hs2 hsf hlen hp1 hp2 hlg hLG hnb hnf hU HTK hW2 hbx hL2 hb2 hk2 hS2 hx htn hxl hp2' hL hb hk hY
      go_upto_region 5 with fail
      rw [HW2.out, HBX.out]
      clear HW2 HBX k0 k1 k2 k3 k4 k5 k6 k7
      refine wp_region_seq (by kernel_rfl) (fun W' => Below W2.heap.size W2 W') (by kernel_rfl) (Below.refl _ _).drew ?_
      refine SeqV.step (.pointer (some ⟨g, 0, none⟩)) (by rfl) (fun W hW => ?_) ?_
      · unfold Oper.wp
        simp [go_sem]
        try exact hW
      simp only [Act.put, List.setIfInBounds_toArray, List.set_cons_succ, List.set_cons_zero]
      refine SeqV.step (.pointer (some ⟨g, 0, none⟩)) (by rfl) (fun W hW => ?_) ?_
      · unfold Oper.wp
        simp [go_sem]
        try exact hW
      simp only [Act.put, List.setIfInBounds_toArray, List.set_cons_succ, List.set_cons_zero]
      refine SeqV.step (.pointer (some ⟨g, 2, none⟩)) (by rfl) (fun W hW => ?_) ?_
      · unfold Oper.wp
        simp [go_sem]
        try exact hW
      simp only [Act.put, List.setIfInBounds_toArray, List.set_cons_succ, List.set_cons_zero]
      refine SeqV.step (.int .i64 E) (by rfl) (fun W hW => ?_) ?_
      · obtain ⟨⟨hq, _⟩, _⟩ := HC.out W hW
        have q2 := hq.obj.cell 2
        unfold Oper.wp
        simp [go_sem, q2]
        try exact hW
      simp only [Act.put, List.setIfInBounds_toArray, List.set_cons_succ, List.set_cons_zero]
      refine SeqV.step (.pointer (some ⟨bx, 2, none⟩)) (by rfl) (fun W hW => ?_) ?_
      · unfold Oper.wp
        simp [go_sem]
        try exact hW
      simp only [Act.put, List.setIfInBounds_toArray, List.set_cons_succ, List.set_cons_zero]
      refine SeqV.step (.pointer (some ⟨bx, 4, none⟩)) (by rfl) (fun W hW => ?_) ?_
      · unfold Oper.wp
        simp [go_sem]
        try exact hW
      simp only [Act.put, List.setIfInBounds_toArray, List.set_cons_succ, List.set_cons_zero]
      refine SeqV.step (.int .i64 al) (by rfl) (fun W hW => ?_) ?_
      · obtain ⟨⟨_, hs⟩, _⟩ := HC.out W hW
        have q2 := hs.cell 4
        unfold Oper.wp
        simp [go_sem, q2]
        try exact hW
      simp only [Act.put, List.setIfInBounds_toArray, List.set_cons_succ, List.set_cons_zero]
      refine SeqV.step (.int .i64 U) (by rfl) (fun W hW => ?_) ?_
      · unfold Oper.wp
        simp [go_sem]
        refine (HA.out W).mono ?_
        rintro e w' ⟨rfl, rfl⟩
        exact ⟨rfl, hW⟩
      simp only [Act.put, List.setIfInBounds_toArray, List.set_cons_succ, List.set_cons_zero]
      refine SeqV.step (.int .i64 U) (by rfl) (fun W hW => ?_) ?_
      · unfold Oper.wp
        simp [go_sem]
        try exact hW
      simp only [Act.put, List.setIfInBounds_toArray, List.set_cons_succ, List.set_cons_zero]
      intro W3 hW3
      obtain ⟨⟨hL3, hS3⟩, hb3, hk3⟩ := HC.out W3 hW3
      clear HC HA hW3
      -- the place is written down
      obtain ⟨q0, hpa, hq0, c0⟩ := hL3.pr.at_ HX.out
      rw [HXL.out] at c0
      obtain ⟨v0, hv0⟩ : ∃ v, x.r[j]? = some v := ⟨_, List.getElem?_eq_getElem (by rw [HXL.out]; omega)⟩
      obtain ⟨c1, f1⟩ := hL3.pr.num HX.out hv0
      have hL4 := hL3.drew.num HX.out j U
      have hxh := (hL3.pr.vals x (List.mem_of_getElem? HX.out)).2
      have hlx := (hL3.pr.vals x (List.mem_of_getElem? HX.out)).1
      have hS4 : Has (W3.drew.setCell ⟨x.g, j, none⟩ (.int .i64 U)) bx 121 #[.int .i64 (p : Int), .int .i64 (j : Int), .string nm, .int .i64 kd, .int .i64 al, .slice z1 nb d1, .int .i64 sz, .slice z2 nf d2] := (hS3.drew).away (p := ⟨x.g, j, none⟩) (hS3.differ hxh (by decide)) _
      have hb4 : Below B W0 (W3.drew.setCell ⟨x.g, j, none⟩ (.int .i64 U)) := hb3.drew.setCell (p := ⟨x.g, j, none⟩) (Nat.le_trans hB hlx) _
      have hk4 : KeepL W0 (W3.drew.setCell ⟨x.g, j, none⟩ (.int .i64 U)) := (hk3.trans (KeepL.below ⟨rfl, rfl, rfl, Nat.le_refl _, fun _ _ => rfl⟩)).trans (KeepL.put (a := W3.drew) hxh.drew (by decide) j _)
      subst hpa
      obtain ⟨q0', hpa', _, c0'⟩ := hL4.pr.at_ (k := p) (x := ⟨x.g, x.r.set j U⟩) (by rw [List.getElem?_set, if_pos rfl, if_pos (List.getElem?_eq_some_iff.1 HX.out).1])
      injection hpa' with hpa'
      injection hpa' with hpa'
      subst hpa'
      dsimp only at c0'
      rw [List.length_set, HXL.out] at c0'
      have HC6 : Hid (∀ W', W' = W3.drew ∨ W' = W3.drew.setCell ⟨x.g, j, none⟩ (.int .i64 U) → W'.cell? ⟨g, 0, none⟩ = some (.slice (some ⟨q0, 0, none⟩) NP pc) ∧ W'.cell? ⟨bx, 0, none⟩ = some (.int .i64 (p : Int)) ∧ W'.cell? ⟨bx, 1, none⟩ = some (.int .i64 (j : Int)) ∧ W'.cell? ⟨q0, p, none⟩ = some (.slice (some ⟨x.g, 0, none⟩) xl xl)) := fun W' hW' => by
        rcases hW' with rfl | rfl
        · exact ⟨hL3.drew.obj.cell 0, hS3.drew.cell 0, hS3.drew.cell 1, c0⟩
        · exact ⟨hL4.obj.cell 0, hS4.cell 0, hS4.cell 1, c0'⟩
      obtain ⟨W4, hW4⟩ : ∃ q, W3.drew.setCell ⟨x.g, j, none⟩ (.int .i64 U) = q := ⟨_, rfl⟩
      rw [hW4] at HC6 hL4 hS4 hb4 hk4
      have HW4 := hidden hW4
      have HL4 := hidden hL4
      have HS4 := hidden hS4
      have HB4 := hidden hb4
      have HK4 := hidden hk4
      have hc1 : W3.drew.cell? ⟨x.g, j, none⟩ = some (.int .i64 v0) := c1
      have hf1 : W3.drew.frozen? ⟨x.g, j, none⟩ = false := f1
      have HCF : Hid (W3.drew.cell? ⟨x.g, j, none⟩ = some (.int .i64 v0) ∧ W3.drew.frozen? ⟨x.g, j, none⟩ = false) := ⟨hc1, hf1⟩
      clear hL3 hS3 hb3 hk3 hq0 c0 c0' hv0 c1 f1 hxh hlx hL4 hS4 hb4 hk4 hW4 hc1 hf1
      go_upto_region 6 with fail
      refine wp_region_chain (m := 1) (js := [.quiet (.pointer (some ⟨g, 0, none⟩)) 1, .quiet (.pointer (some ⟨g, 0, none⟩)) 1, .quiet (.pointer (some ⟨g, 0, none⟩)) 1, .quiet (.slice (some ⟨q0, 0, none⟩) NP pc) 1, .quiet (.pointer (some ⟨bx, 0, none⟩)) 1, .quiet (.int .i64 (p : Int)) 1, .quiet (.pointer (some ⟨q0, p, none⟩)) 1, .quiet (.slice (some ⟨x.g, 0, none⟩) xl xl) 1, .quiet (.pointer (some ⟨bx, 1, none⟩)) 1, .quiet (.int .i64 (j : Int)) 1, .quiet (.int .i64 U) 1, .quiet (.pointer (some ⟨x.g, j, none⟩)) 1, .chain 0]) (by kernel_rfl) (JSt W3.drew W4) (by kernel_rfl) (by kernel_rfl) ⟨fun _ => undef, (rfl : W3.drew = W3.drew)⟩ (fun vals => ?_) ?_
      · show SeqW _ _ _ _ _ _ _
        refine ⟨fun kk hkk W hW => ?_, ?_⟩
        · unfold Oper.wp
          simp [go_sem]
          try exact ⟨_, rfl, rfl⟩
        simp only [Act.put, List.setIfInBounds_toArray, List.set_cons_succ, List.set_cons_zero]
        refine ⟨fun kk hkk W hW => ?_, ?_⟩
        · unfold Oper.wp
          simp [go_sem]
          try exact ⟨_, rfl, rfl⟩
        simp only [Act.put, List.setIfInBounds_toArray, List.set_cons_succ, List.set_cons_zero]
        refine ⟨fun kk hkk W hW => ?_, ?_⟩
        · unfold Oper.wp
          simp [go_sem]
          try exact ⟨_, rfl, rfl⟩
        simp only [Act.put, List.setIfInBounds_toArray, List.set_cons_succ, List.set_cons_zero]
        refine ⟨fun kk hkk W hW => ?_, ?_⟩
        · obtain ⟨r0, r1, r2, r3⟩ := HC6.out W (JSt.either hW)
          unfold Oper.wp
          simp [go_sem, r0]
          try exact ⟨_, rfl, rfl⟩
        simp only [Act.put, List.setIfInBounds_toArray, List.set_cons_succ, List.set_cons_zero]
        refine ⟨fun kk hkk W hW => ?_, ?_⟩
        · unfold Oper.wp
          simp [go_sem]
          try exact ⟨_, rfl, rfl⟩
        simp only [Act.put, List.setIfInBounds_toArray, List.set_cons_succ, List.set_cons_zero]
        refine ⟨fun kk hkk W hW => ?_, ?_⟩
        · obtain ⟨r0, r1, r2, r3⟩ := HC6.out W (JSt.either hW)
          unfold Oper.wp
          simp [go_sem, r1]
          try exact ⟨_, rfl, rfl⟩
        simp only [Act.put, List.setIfInBounds_toArray, List.set_cons_succ, List.set_cons_zero]
        refine ⟨fun kk hkk W hW => ?_, ?_⟩
        · have r := hpN
          unfold Oper.wp
          simp [go_sem, r]
          try exact ⟨_, rfl, rfl⟩
        simp only [Act.put, List.setIfInBounds_toArray, List.set_cons_succ, List.set_cons_zero]
        refine ⟨fun kk hkk W hW => ?_, ?_⟩
        · obtain ⟨r0, r1, r2, r3⟩ := HC6.out W (JSt.either hW)
          unfold Oper.wp
          simp [go_sem, r3]
          try exact ⟨_, rfl, rfl⟩
        simp only [Act.put, List.setIfInBounds_toArray, List.set_cons_succ, List.set_cons_zero]
        refine ⟨fun kk hkk W hW => ?_, ?_⟩
        · unfold Oper.wp
          simp [go_sem]
          try exact ⟨_, rfl, rfl⟩
        simp only [Act.put, List.setIfInBounds_toArray, List.set_cons_succ, List.set_cons_zero]
        refine ⟨fun kk hkk W hW => ?_, ?_⟩
        · obtain ⟨r0, r1, r2, r3⟩ := HC6.out W (JSt.either hW)
          unfold Oper.wp
          simp [go_sem, r2]
          try exact ⟨_, rfl, rfl⟩
        simp only [Act.put, List.setIfInBounds_toArray, List.set_cons_succ, List.set_cons_zero]
        refine ⟨fun kk hkk W hW => ?_, ?_⟩
        · unfold Oper.wp
          simp [go_sem]
          try exact ⟨_, rfl, rfl⟩
        simp only [Act.put, List.setIfInBounds_toArray, List.set_cons_succ, List.set_cons_zero]
        refine ⟨fun kk hkk W hW => ?_, ?_⟩
        · have r := hjx
          unfold Oper.wp
          simp [go_sem, r]
          try exact ⟨_, rfl, rfl⟩
        simp only [Act.put, List.setIfInBounds_toArray, List.set_cons_succ, List.set_cons_zero]
        refine ⟨fun W hW => ?_, trivial⟩
        obtain rfl : W = W3.drew := hW
        obtain ⟨ck, fk⟩ := HCF.out
        have hN : ∀ u, JSt W3.drew W4 1 (W3.drew.setCell ⟨x.g, j, none⟩ (.int .i64 U)) (upd vals 0 u) := fun u => HW4.out
        unfold Oper.wp
        simp [go_sem, ck, fk]
        first | exact hN _ | exact ⟨undef, hN _⟩ | exact ⟨_, rfl, hN _⟩
      · intro W vals hJ
        simp only [putAll, List.map_cons, List.map_nil, Job.val, Act.put, List.setIfInBounds_toArray, List.set_cons_succ, List.set_cons_zero]
        obtain rfl : W = W4 := hJ
        have s2 := HS4.out.cell 2
        have s3 := HS4.out.cell 3
        have s4 := HS4.out.cell 4
        have s5 := HS4.out.cell 5
        have s6 := HS4.out.cell 6
        have s7 := HS4.out.cell 7
        have HSZ4 := hidden (HSZ.out W HB4.out (Nat.le_trans hB (Nat.le_trans hlo HB4.out.size)))
        have hw3 : IntKind.i64.wrap (U + lg) = U + lg := IntWalk.i64_in _ (by omega)
        have HLN2 : Hid ((rs.set p ⟨x.g, x.r.set j U⟩).map (fun x => x.r.length) = ln0) := by
          show _ = _
          rw [← hLN.out, List.map_set]
          apply List.ext_getElem?
          intro i
          rw [List.getElem?_set]
          by_cases e : p = i
          · subst e
            rw [if_pos rfl, List.getElem?_map, HX.out]
            simp [(List.getElem?_eq_some_iff.1 HX.out).1]
          · rw [if_neg e]
        have HNX2 : Hid ((⟨pl0, F⟩ : Lo).run ((Ps.take (t + 1)).map Pl.pk) = ⟨(rs.set p ⟨x.g, x.r.set j U⟩).map Rn.r, U + lg⟩) := by
          show _ = _
          rw [HNX.out, rw_put HX.out]
        clear HCF HC6 HW4 HSZ HS4 HNX HX HXL hLN
        go_wp2_with fail
        refine HSZ4.out.mono ?_
        clear HSZ4 s2 s3 s4 s5 s6 s7
        rintro e w5 ⟨rfl, hb5⟩
        have hL5 := HL4.out.only hb5
        have c5 := hL5.obj.cell 2
        have f5 := hL5.obj.free 2
        have c5' : w5.cell? ⟨g, 2, none⟩ = some (.int .i64 E) := c5
        have HL6 := hidden (hL5.setE (U + lg))
        have HB6 : Hid (Below B W0 (w5.setCell ⟨g, 2, none⟩ (.int .i64 (U + lg)))) := (HB4.out.trans (hb5.mono (Nat.le_trans hB (Nat.le_trans hlo HB4.out.size)))).setCell (p := ⟨g, 2, none⟩) hBg _
        have HK6 : Hid (KeepL W0 (w5.setCell ⟨g, 2, none⟩ (.int .i64 (U + lg)))) := (HK4.out.trans (KeepL.below hb5)).trans (KeepL.put hL5.obj (by decide) 2 _)
        clear hL5 c5 hb5 HL4 HB4 HK4
        go_wp2_with fail
        go_roundw
        case rel => exact ⟨t + 1, U + lg, _, by go_num, HTN.out, HL6, HB6, HK6, HNX2, HLN2⟩
        case measure => have := HTN.out; simp [intOf]; omega
    · have hit : ¬ (t : Int) < (n : Int) := by omega
      have hyy : y = ⟨rs.map Rn.r, E⟩ := by
        rw [← HY.out, ← hY.out, List.take_of_length_le (by rw [HN.out]; omega)]
      have hge : lo ≤ wr.heap.size := Nat.le_trans hlo hb.out.size
      obtain ⟨X, hX⟩ : ∃ X : World → Value → Prop, X = fun W u => LO W g lo (.slice pa NP pc) u E rs (es ++ [⟨wr.drew.heap.size, [F, E]⟩]) ∧ Below B W0 W ∧ KeepL W0 W := ⟨_, rfl⟩
      have HX := hidden hX
      have HYY := hidden hyy
      have HA : Hid (∀ W', Below wr.drew.heap.size wr.drew W' → LO W' g lo (.slice pa NP pc) (.slice ea ne ec) E rs es) := fun W' hW' => hL.out.drew.only hW'
      have hb0 : Below B W0 wr.drew := hb.out.drew
      have hk0 : KeepL W0 wr.drew := hk.out.trans (KeepL.below ⟨rfl, rfl, rfl, Nat.le_refl _, fun _ _ => rfl⟩)
      have hlw := hL.out.drew
      have hB0 : B ≤ wr.drew.heap.size := Nat.le_trans hB hge
      have hl2 : LO ((wr.drew.alloc (.cells #[.int .i64 F, .int .i64 E] 3)).alloc (.cells #[.slice (some ⟨wr.drew.heap.size, 0, none⟩) 2 2] 39)) g lo (.slice pa NP pc) (.slice ea ne ec) E rs es := (hlw.alloc _).alloc _
      have hb2 : Below B W0 ((wr.drew.alloc (.cells #[.int .i64 F, .int .i64 E] 3)).alloc (.cells #[.slice (some ⟨wr.drew.heap.size, 0, none⟩) 2 2] 39)) := (hb0.alloc hB0 _).alloc (by rw [show (wr.drew.alloc (.cells #[.int .i64 F, .int .i64 E] 3)).heap.size = wr.drew.heap.size + 1 by simp]; omega) _
      have hk2 : KeepL W0 ((wr.drew.alloc (.cells #[.int .i64 F, .int .i64 E] 3)).alloc (.cells #[.slice (some ⟨wr.drew.heap.size, 0, none⟩) 2 2] 39)) := (hk0.trans (KeepL.below ((Below.refl _ _).alloc (Nat.le_refl _) _))).trans (KeepL.below ((Below.refl _ _).alloc (Nat.le_refl _) _))
      have hx2 : Has ((wr.drew.alloc (.cells #[.int .i64 F, .int .i64 E] 3)).alloc (.cells #[.slice (some ⟨wr.drew.heap.size, 0, none⟩) 2 2] 39)) wr.drew.heap.size 3 #[.int .i64 F, .int .i64 E] := (Has.new _ _ _).alloc _
      have hnew2 : Has ((wr.drew.alloc (.cells #[.int .i64 F, .int .i64 E] 3)).alloc (.cells #[.slice (some ⟨wr.drew.heap.size, 0, none⟩) 2 2] 39)) (wr.drew.heap.size + 1) 39 #[.slice (some ⟨wr.drew.heap.size, 0, none⟩) 2 2] := by
        have := Has.new (wr.drew.alloc (.cells #[.int .i64 F, .int .i64 E] 3)) 39 #[.slice (some ⟨wr.drew.heap.size, 0, none⟩) 2 2]
        rw [show (wr.drew.alloc (.cells #[.int .i64 F, .int .i64 E] 3)).heap.size = wr.drew.heap.size + 1 by simp] at this
        exact this
      have hr1 : ∀ z ∈ rs, z.g ≠ wr.drew.heap.size := fun z hz => Nat.ne_of_lt (hlw.pr.low z hz)
      have hr2 : ∀ z ∈ es, z.g ≠ wr.drew.heap.size := fun z hz => Nat.ne_of_lt (hlw.er.low z hz)
      obtain ⟨W2, hW2⟩ : ∃ q, (wr.drew.alloc (.cells #[.int .i64 F, .int .i64 E] 3)).alloc (.cells #[.slice (some ⟨wr.drew.heap.size, 0, none⟩) 2 2] 39) = q := ⟨_, rfl⟩
      rw [hW2] at hl2 hb2 hk2 hx2 hnew2
      have hge2 : lo ≤ W2.heap.size := Nat.le_trans hlo hb2.size
      have hne2' := HNE.out
      have HROW2 : Hid (W2.ownsRow lo 39 1 (.slice ea ne ec) ne (es.map Rn.val)) := by
        have := hl2.er.row
        rwa [hne2'] at this
      have HEND : Hid (∀ (w' : World) (b9 : Option Addr) (d9 : Nat), w'.ownsRow lo 39 1 (.slice b9 (ne + 1) d9) (ne + 1) (es.map Rn.val ++ [.slice (some ⟨wr.drew.heap.size, 0, none⟩) 2 2]) → W2.grownBy w' (Value.slice ea ne ec).ownBlock → ((Value.slice b9 (ne + 1) d9).ownBlock = (Value.slice ea ne ec).ownBlock ∨ w'.ownsRow W2.heap.size 39 1 (.slice b9 (ne + 1) d9) (ne + 1) (es.map Rn.val ++ [.slice (some ⟨wr.drew.heap.size, 0, none⟩) 2 2])) → PEk g ne (.slice pa NP pc) (.slice ea ne ec) E X w' (.slice b9 (ne + 1) d9)) := fun w' b9 d9 h2 h3 h4 => by
        obtain ⟨q1, q2⟩ := hl2.ends (x := ⟨wr.drew.heap.size, [F, E]⟩) hx2 hge hr1 hr2 (by rw [hne2']; exact h2) h3 (by rw [hne2']; exact h4)
        refine ⟨b9, d9, rfl, q1, ?_⟩
        rw [HX.out]
        exact ⟨q2, (hb2.grown h3 (Nat.le_trans hB hge2) (fun q hq => Nat.le_trans hB (HROW2.out.lt q hq).1)).setCell (p := ⟨g, 1, none⟩) hBg _, (hk2.trans (KeepL.grown h3 HROW2.out)).trans (KeepL.put q1 (by decide) 1 _)⟩
      have HW2 := hidden hW2
      have HNEW2 := hidden hnew2
      have HGE2 := hidden hge2
      clear hyy hX hb0 hk0 hlw hl2 hb2 hk2 hx2 hnew2 hr1 hr2 hW2 hge2 hne2' hge hB0 hL hb hk hY hLN ht htn
      go_upto_region 9 with fail
      refine wp_region_chain (m := 4) (js := [.quiet (.pointer (some ⟨g, 0, none⟩)) 4, .quiet (.pointer (some ⟨g, 0, none⟩)) 4, .quiet (.pointer (some ⟨g, 0, none⟩)) 4, .quiet (.pointer (some ⟨g, 1, none⟩)) 4, .quiet (.slice ea ne ec) 2, .quiet (.int .i64 F) 4, .quiet (.pointer (some ⟨g, 0, none⟩)) 4, .quiet (.pointer (some ⟨g, 0, none⟩)) 4, .quiet (.pointer (some ⟨g, 2, none⟩)) 4, .quiet (.int .i64 E) 0, .chain 0, .chain 1, .chain 2, .quiet (.pointer (some ⟨g, 0, none⟩)) 4, .quiet (.pointer (some ⟨g, 1, none⟩)) 4, .chain 3]) (by kernel_rfl) (JEnd wr.drew F E (PEk g ne (.slice pa NP pc) (.slice ea ne ec) E X) (ZEk ne X)) (by kernel_rfl) (by kernel_rfl) ⟨fun _ => undef, (rfl : wr.drew = wr.drew)⟩ (fun vals => ?_) ?_
      · show SeqW _ _ _ _ _ _ _
        refine ⟨fun kk hkk W hW => ?_, ?_⟩
        · unfold Oper.wp
          simp [go_sem]
          try exact ⟨_, rfl, rfl⟩
        simp only [Act.put, List.setIfInBounds_toArray, List.set_cons_succ, List.set_cons_zero]
        refine ⟨fun kk hkk W hW => ?_, ?_⟩
        · unfold Oper.wp
          simp [go_sem]
          try exact ⟨_, rfl, rfl⟩
        simp only [Act.put, List.setIfInBounds_toArray, List.set_cons_succ, List.set_cons_zero]
        refine ⟨fun kk hkk W hW => ?_, ?_⟩
        · unfold Oper.wp
          simp [go_sem]
          try exact ⟨_, rfl, rfl⟩
        simp only [Act.put, List.setIfInBounds_toArray, List.set_cons_succ, List.set_cons_zero]
        refine ⟨fun kk hkk W hW => ?_, ?_⟩
        · unfold Oper.wp
          simp [go_sem]
          try exact ⟨_, rfl, rfl⟩
        simp only [Act.put, List.setIfInBounds_toArray, List.set_cons_succ, List.set_cons_zero]
        refine ⟨fun kk hkk W hW => ?_, ?_⟩
        · have q := (HA.out W (JEnd.low hW hkk)).obj.cell 1
          unfold Oper.wp
          simp [go_sem, q]
          try exact ⟨_, rfl, rfl⟩
        simp only [Act.put, List.setIfInBounds_toArray, List.set_cons_succ, List.set_cons_zero]
        refine ⟨fun kk hkk W hW => ?_, ?_⟩
        · unfold Oper.wp
          simp [go_sem]
          try exact ⟨_, rfl, rfl⟩
        simp only [Act.put, List.setIfInBounds_toArray, List.set_cons_succ, List.set_cons_zero]
        refine ⟨fun kk hkk W hW => ?_, ?_⟩
        · unfold Oper.wp
          simp [go_sem]
          try exact ⟨_, rfl, rfl⟩
        simp only [Act.put, List.setIfInBounds_toArray, List.set_cons_succ, List.set_cons_zero]
        refine ⟨fun kk hkk W hW => ?_, ?_⟩
        · unfold Oper.wp
          simp [go_sem]
          try exact ⟨_, rfl, rfl⟩
        simp only [Act.put, List.setIfInBounds_toArray, List.set_cons_succ, List.set_cons_zero]
        refine ⟨fun kk hkk W hW => ?_, ?_⟩
        · unfold Oper.wp
          simp [go_sem]
          try exact ⟨_, rfl, rfl⟩
        simp only [Act.put, List.setIfInBounds_toArray, List.set_cons_succ, List.set_cons_zero]
        refine ⟨fun kk hkk W hW => ?_, ?_⟩
        · have q := (HA.out W (JEnd.low hW (by omega))).obj.cell 2
          unfold Oper.wp
          simp [go_sem, q]
          try exact ⟨_, rfl, rfl⟩
        simp only [Act.put, List.setIfInBounds_toArray, List.set_cons_succ, List.set_cons_zero]
        refine ⟨fun W hW => ?_, ?_⟩
        · obtain rfl : W = wr.drew := hW
          have hN : JEnd wr.drew F E (PEk g ne (.slice pa NP pc) (.slice ea ne ec) E X) (ZEk ne X) 1 (wr.drew.alloc (.cells #[.int .i64 F, .int .i64 E] 3)) (upd vals 0 (.slice (some ⟨wr.drew.heap.size, 0, none⟩) 2 2)) := ⟨rfl, rfl⟩
          unfold Oper.wp
          simp [go_sem]
          first | exact hN | exact ⟨_, rfl, hN⟩
        simp only [Act.put, List.setIfInBounds_toArray, List.set_cons_succ, List.set_cons_zero]
        refine ⟨fun W hW => ?_, ?_⟩
        · obtain ⟨rfl, hv⟩ := hW
          have hN : JEnd wr.drew F E (PEk g ne (.slice pa NP pc) (.slice ea ne ec) E X) (ZEk ne X) 2 ((wr.drew.alloc (.cells #[.int .i64 F, .int .i64 E] 3)).alloc (.cells #[.slice (some ⟨wr.drew.heap.size, 0, none⟩) 2 2] 39)) (upd vals 1 (.slice (some ⟨wr.drew.heap.size + 1, 0, none⟩) 1 1)) := ⟨rfl, rfl⟩
          rw [hv]
          unfold Oper.wp
          simp [go_sem]
          first | exact hN | exact ⟨_, rfl, hN⟩
        simp only [Act.put, List.setIfInBounds_toArray, List.set_cons_succ, List.set_cons_zero]
        refine ⟨fun W hW => ?_, ?_⟩
        · obtain ⟨hWe, hv⟩ := hW
          rw [HW2.out] at hWe
          subst hWe
          refine wp_append_fresh _ _ 34 39 rfl _ 1 24 Try.info_ints Try.underlying34 rfl (by decide) (by decide) lo (.slice ea ne ec) ne (es.map Rn.val) rfl HROW2.out (wr.drew.heap.size + 1) 0 1 1 [.slice (some ⟨wr.drew.heap.size, 0, none⟩) 2 2] hv rfl (by omega) (fun i u hu => by rw [Nat.zero_add, HNEW2.out.cell]; simpa using hu) (fun u hu => by rw [List.mem_singleton.1 hu]; rfl) (by omega) HGE2.out ?_
          intro v' w' h2 h3 h4
          obtain ⟨b9, d9, rfl⟩ := own_shape h2
          exact ⟨_, rfl, (HEND.out w' b9 d9 h2 h3 h4 : JEnd wr.drew F E (PEk g ne (.slice pa NP pc) (.slice ea ne ec) E X) (ZEk ne X) 3 w' (upd vals 2 (.slice b9 (ne + 1) d9)))⟩
        simp only [Act.put, List.setIfInBounds_toArray, List.set_cons_succ, List.set_cons_zero]
        refine ⟨fun kk hkk W hW => ?_, ?_⟩
        · unfold Oper.wp
          simp [go_sem]
          try exact ⟨_, rfl, rfl⟩
        simp only [Act.put, List.setIfInBounds_toArray, List.set_cons_succ, List.set_cons_zero]
        refine ⟨fun kk hkk W hW => ?_, ?_⟩
        · unfold Oper.wp
          simp [go_sem]
          try exact ⟨_, rfl, rfl⟩
        simp only [Act.put, List.setIfInBounds_toArray, List.set_cons_succ, List.set_cons_zero]
        refine ⟨fun W hW => ?_, trivial⟩
        obtain ⟨b9, d9, hv9, q1, q2⟩ := hW
        rw [hv9]
        have ck : W.cell? ⟨g, 1, none⟩ = some (.slice ea ne ec) := q1.cell 1
        have fk : W.frozen? ⟨g, 1, none⟩ = false := q1.free 1
        have hN : ∀ u, JEnd wr.drew F E (PEk g ne (.slice pa NP pc) (.slice ea ne ec) E X) (ZEk ne X) 4 (W.setCell ⟨g, 1, none⟩ (.slice b9 (ne + 1) d9)) (upd vals 3 u) := fun u => ⟨b9, d9, q2⟩
        clear q1 q2
        unfold Oper.wp
        simp [go_sem, ck, fk]
        first | exact hN _ | exact ⟨undef, hN _⟩ | exact ⟨_, rfl, hN _⟩
      · intro W vals hJ
        simp only [putAll, List.map_cons, List.map_nil, Job.val, Act.put, List.setIfInBounds_toArray, List.set_cons_succ, List.set_cons_zero]
        obtain ⟨b9, d9, hx9⟩ := hJ
        rw [HX.out] at hx9
        obtain ⟨hL9, hB9, hK9⟩ := hx9
        have HFIN : Hid (PlacedK W0 B g lo (.slice pa NP pc) es F y (.returned (.tuple #[])) W) := by
          rw [HYY.out]
          exact ⟨rfl, b9, d9, rs, _, (by rw [HNE.out]; exact hL9), rfl, (by rw [List.map_append]; rfl), hB9, hK9⟩
        clear hL9 hB9 hK9 HEND HROW2 HNEW2 HGE2 HW2 HA HX HYY
        go_wp2_with fail
        go_end0
        exact HFIN.out

end Go.Proofs.Ytiocchmlmcoieaa

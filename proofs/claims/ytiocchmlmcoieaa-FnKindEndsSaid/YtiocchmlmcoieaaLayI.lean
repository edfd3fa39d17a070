/-
  impl.sectionsByKind: the sections of each kind, in rows of their own.
-/
import Derived.Test.YtiocchmlmcoieaaLayS
import Derived.Test.YtiocchmlmcoieaaRegionV
import Derived.Test.YtiocchmlmcoieaaObI
namespace Go.Proofs.Ytiocchmlmcoieaa
open Go.RowKit

/-- A section with the numbers of its object and of itself, and where its lists lie. -/
structure Pl where
  k : Nat
  j : Nat
  y : Sp
def Pl.pk (p : Pl) : Pk := ⟨p.k, p.j, p.y.s⟩
def Pl.cells (p : Pl) : List Value := [.int .i64 (p.k : Int), .int .i64 (p.j : Int), .string p.y.s.name, .int .i64 p.y.s.kind, .int .i64 p.y.s.align, .slice p.y.a1 p.y.s.bytes.length p.y.c1, .int .i64 p.y.s.size, .slice p.y.a2 p.y.s.fixs.length p.y.c2]
def flatP (l : List Pl) : List Value := l.flatMap Pl.cells
theorem flatP_snoc (l : List Pl) (p : Pl) : flatP (l ++ [p]) = flatP l ++ p.cells := by simp [flatP]
theorem flatP_length (l : List Pl) : (flatP l).length = l.length * 8 := by
  induction l with
  | nil => rfl
  | cons f r ih => unfold flatP at *; rw [List.flatMap_cons, List.length_append, ih]; simp [Pl.cells]; omega
theorem flatP_at : ∀ (l : List Pl) (i : Nat) (p : Pl), l[i]? = some p → ∀ t, t < 8 → (flatP l)[i * 8 + t]? = p.cells[t]?
  | [], _, _, h, _, _ => by simp at h
  | x :: r, 0, p, h, t, ht => by
    simp at h; subst h
    unfold flatP
    rw [List.flatMap_cons, Nat.zero_mul, Nat.zero_add, List.getElem?_append_left (by simpa [Pl.cells] using ht)]
  | x :: r, i + 1, p, h, t, ht => by
    have ih := flatP_at r i p (by simpa using h) t ht
    unfold flatP at ih ⊢
    rw [List.flatMap_cons, List.getElem?_append_right (by simp [Pl.cells]; omega), ← ih]
    congr 1
    simp [Pl.cells]; omega
theorem Pl.one (p : Pl) : ∀ u ∈ p.cells, u.oneCell' = true := fun u hu => by
  unfold Pl.cells at hu
  simp only [List.mem_cons, List.not_mem_nil, or_false] at hu
  rcases hu with rfl | rfl | rfl | rfl | rfl | rfl | rfl | rfl <;> rfl
theorem Try.info_listed : (Try.prog.info? 121).map (fun i => (i.zero, i.size, i.bytes)) = some (some (.agg #[.int .i64 0, .int .i64 0, .string ⟨#[]⟩, .int .i64 0, .int .i64 0, .slice none 0 0, .int .i64 0, .slice none 0 0]), 8, 104) := by kernel_rfl
/-- The lists of the kinds. -/
structure KL (W : World) (lo g : Nat) (vs : List Value) (Ps : List (List Pl)) : Prop where
  obj : Has W g 94 vs.toArray
  lenv : vs.length = 3
  lenp : Ps.length = 3
  rows : ∀ (i : Nat) (v : Value) (P : List Pl), vs[i]? = some v → Ps[i]? = some P → W.ownsRow lo 121 8 v P.length (flatP P)
  apart : ∀ (i j : Nat) (v v' : Value), i ≠ j → vs[i]? = some v → vs[j]? = some v' → v.ownBlock = none ∨ v.ownBlock ≠ v'.ownBlock
section
variable {W W' : World} {lo g : Nat} {vs : List Value} {Ps : List (List Pl)}
theorem KL.kept (h : KL W lo g vs Ps) (hg : W.grownBy W' none) : KL W' lo g vs Ps :=
  ⟨h.obj.grown hg (by simp), h.lenv, h.lenp, fun i v P h1 h2 => (h.rows i v P h1 h2).kept hg (Classical.em _), h.apart⟩
theorem KL.only (h : KL W lo g vs Ps) (hb : Below W.heap.size W W') : KL W' lo g vs Ps := h.kept (grown_only hb)
theorem KL.alloc (h : KL W lo g vs Ps) (o : Obj) : KL (W.alloc o) lo g vs Ps := h.only ((Below.refl _ _).alloc (Nat.le_refl _) o)
theorem KL.drewN (h : KL W lo g vs Ps) (n : Nat) : KL (W.drewN n) lo g vs Ps := ⟨h.obj, h.lenv, h.lenp, h.rows, h.apart⟩
theorem KL.app (h : KL W lo g vs Ps) {i : Nat} {v v' : Value} {P : List Pl} {p : Pl} (hv : vs[i]? = some v) (hP : Ps[i]? = some P) (hr : W'.ownsRow lo 121 8 v' (P.length + 1) (flatP P ++ p.cells)) (hg : W.grownBy W' v.ownBlock)
    (hf : v'.ownBlock = v.ownBlock ∨ W'.ownsRow W.heap.size 121 8 v' (P.length + 1) (flatP P ++ p.cells)) : Has W' g 94 vs.toArray ∧ KL (W'.setCell ⟨g, i, none⟩ v') lo g (vs.set i v') (Ps.set i (P ++ [p])) := by
  have ho : Has W' g 94 vs.toArray := h.obj.grown hg (h.obj.other (h.rows i v P hv hP) (by decide))
  have hil := (List.getElem?_eq_some_iff.1 hv).1
  have hiP := (List.getElem?_eq_some_iff.1 hP).1
  have hput : W'.grownBy (W'.setCell ⟨g, i, none⟩ v') (some g) := only_put' i _
  have hnew : ∀ (j : Nat) (u : Value), i ≠ j → vs[j]? = some u → (v'.ownBlock = none ∨ v'.ownBlock ≠ u.ownBlock) ∧ (u.ownBlock = none ∨ u.ownBlock ≠ v'.ownBlock) := fun j u hne hu => by
    obtain ⟨Q, hQ⟩ : ∃ Q, Ps[j]? = some Q := ⟨_, List.getElem?_eq_getElem (by have := (List.getElem?_eq_some_iff.1 hu).1; have := h.lenv; have := h.lenp; omega)⟩
    rcases hf with hf | hf
    · rw [hf]
      exact ⟨h.apart i j v u hne hv hu, h.apart j i u v (Ne.symm hne) hu hv⟩
    · have key : ∀ q, v'.ownBlock = some q → u.ownBlock ≠ some q := fun q hq e => by
        have h1 := (hf.lt q hq).1
        have h2 := ((h.rows j u Q hu hQ).lt q e).2
        omega
      constructor
      · rcases hq : v'.ownBlock with _ | q
        · exact .inl rfl
        · exact .inr fun e => key q hq e.symm
      · rcases hq : u.ownBlock with _ | q
        · exact .inl rfl
        · exact .inr fun e => key q e.symm hq
  refine ⟨ho, ?_, by rw [List.length_set]; exact h.lenv, by rw [List.length_set]; exact h.lenp, fun j u Q hu hQ => ?_, fun j j' u u' hne hu hu' => ?_⟩
  · have := ho.put i v'
    simpa using this
  · rw [List.getElem?_set] at hu hQ
    by_cases e : i = j
    · subst e
      rw [if_pos rfl, if_pos hil] at hu
      rw [if_pos rfl, if_pos hiP] at hQ
      injection hu with hu
      injection hQ with hQ
      subst hu
      subst hQ
      rw [List.length_append, flatP_snoc]
      exact World.ownsRow.kept hr hput (row_apart hr ho (by decide))
    · rw [if_neg e] at hu hQ
      have h1 : W'.ownsRow lo 121 8 u Q.length (flatP Q) := (h.rows j u Q hu hQ).kept hg (h.apart j i u v (Ne.symm e) hu hv)
      exact h1.kept hput (row_apart h1 ho (by decide))
  · rw [List.getElem?_set] at hu hu'
    by_cases e : i = j
    · subst e
      rw [if_pos rfl, if_pos hil] at hu
      rw [if_neg hne] at hu'
      injection hu with hu
      subst hu
      exact (hnew j' u' hne hu').1
    · rw [if_neg e] at hu
      by_cases e' : i = j'
      · subst e'
        rw [if_pos rfl, if_pos hil] at hu'
        injection hu' with hu'
        subst hu'
        exact (hnew j u e hu).2
      · rw [if_neg e'] at hu'
        exact h.apart j j' u u' hne hu hu'
end
/-- Around an append of one element whose answer is stored. -/
def JApp (R : World → Prop) (W0 : World) (cs : Array Value) (T : TypeId) (P : World → Value → Prop) (Z : World → Prop) : Nat → World → (Nat → Value) → Prop
  | 0, W, _ => R W ∧ W = W0
  | 1, W, vals => R W ∧ W = W0.alloc (.cells cs T) ∧ vals 0 = .slice (some ⟨W0.heap.size, 0, none⟩) 1 1
  | 2, W, vals => R W ∧ P W (vals 1)
  | _, W, _ => R W ∧ Z W
theorem JApp.all {R : World → Prop} {W0 : World} {cs : Array Value} {T : TypeId} {P : World → Value → Prop} {Z : World → Prop} {k : Nat} {W : World} {vals : Nat → Value} (h : JApp R W0 cs T P Z k W vals) : R W := by
  match k, h with
  | 0, h => exact h.1
  | 1, h => exact h.1
  | 2, h => exact h.1
  | k + 3, h => exact h.1
theorem JApp.low {R : World → Prop} {W0 : World} {cs : Array Value} {T : TypeId} {P : World → Value → Prop} {Z : World → Prop} {k : Nat} {W : World} {vals : Nat → Value} (h : JApp R W0 cs T P Z k W vals) (hk : k ≤ 1) : Below W0.heap.size W0 W := by
  match k, h, hk with
  | 0, h, _ => rw [h.2]; exact Below.refl _ _
  | 1, h, _ => rw [h.2.1]; exact (Below.refl _ _).alloc (Nat.le_refl _) _
/-- Behind the append, ahead of the store. -/
def PAk (lo g3 kk np : Nat) (vs : List Value) (Ps' : List (List Pl)) (X : World → Prop) (W : World) (u : Value) : Prop :=
  ∃ (b9 : Option Addr) (d9 : Nat), u = .slice b9 (np + 1) d9 ∧ Has W g3 94 vs.toArray ∧ KL (W.setCell ⟨g3, kk, none⟩ (.slice b9 (np + 1) d9)) lo g3 (vs.set kk (.slice b9 (np + 1) d9)) Ps' ∧ X (W.setCell ⟨g3, kk, none⟩ (.slice b9 (np + 1) d9))
def ZAk (lo g3 kk np : Nat) (vs : List Value) (Ps' : List (List Pl)) (X : World → Prop) (W : World) : Prop :=
  ∃ (b9 : Option Addr) (d9 : Nat), KL W lo g3 (vs.set kk (.slice b9 (np + 1) d9)) Ps' ∧ X W
/-- Sections by kinds, as an answer. -/
def ByKind (w : World) (L : List Oj) (Ss : List (List Sx)) (e : Ending) (w' : World) : Prop :=
  ∃ (g : Nat) (vs : List Value) (Ps : List (List Pl)), e = .returned (.agg vs.toArray) ∧ KL w' w.heap.size g vs Ps ∧ Below w.heap.size w w' ∧ (∀ (i : Nat) (P : List Pl), Ps[i]? = some P → P.map Pl.pk = kindL (pksUp Ss Ss.length) ((i : Int) + 1) ∧ ∀ p ∈ P, ∃ o ∈ L, p.y ∈ o.l)
set_option maxRecDepth 100000 in
set_option maxHeartbeats 8000000 in
theorem sectionsByKind_any (w : World) (B : Nat) (a : Option Addr) (c n : Nat) (L : List Oj) (Ss : List (List Sx)) (base : Int) (hSs : secsOf L = Ss) (hfine : Fine Ss base) (hn : n = L.length) (h : Objs w B a L) (hB : B ≤ w.heap.size) :
    Calls Try.prog 56 #[.slice a n c] w (ByKind w L Ss) := by
  have HFI := hidden hfine
  have H1 := hidden (h.more hB)
  have HN : Hid (L.length = n) := hn.symm
  have HSN : Hid (Ss.length = n) := by show _ = _; rw [← hSs]; unfold secsOf; rw [List.length_map]; exact hn.symm
  have hn4 : n ≤ 4 := by have := hfine.few; have := HSN.out; omega
  have HAT : Hid (∀ k : Nat, k < n → ∃ b off y, a = some ⟨b, off, none⟩ ∧ L[k]? = some y ∧ Ss[k]? = some (y.l.map Sp.s) ∧ ∀ W, Below w.heap.size w W → (W.cell? ⟨b, off + k * 2, none⟩ = some (.slice y.a1 y.l.length y.c1) ∧ W.cell? ⟨b, off + k * 2 + 1, none⟩ = some (.slice y.a2 y.ms.length y.c2)) ∧ Sects W w.heap.size y.a1 y.l) := fun k hk => by
    have hkl : k < L.length := by rw [HN.out]; exact hk
    obtain ⟨b, off, ha, hb, p0, p1⟩ := H1.out.at_ hkl
    have hy : L[k]? = some L[k] := List.getElem?_eq_getElem hkl
    refine ⟨b, off, L[k], ha, hy, ?_, fun W hW => ⟨⟨(hW.cell (by show b < _; exact hb)).trans p0, (hW.cell (by show b < _; exact hb)).trans p1⟩, (H1.out.below hW).secs _ (List.mem_of_getElem? hy)⟩⟩
    rw [← hSs]
    unfold secsOf
    rw [List.getElem?_map, hy]
    rfl
  have hK0 : KL ((w.alloc (.cells #[.slice none 0 0, .slice none 0 0, .slice none 0 0] 94)).alloc (.cells #[.slice none 0 0, .slice none 0 0, .slice none 0 0] 94)) w.heap.size (w.heap.size + 1) [.slice none 0 0, .slice none 0 0, .slice none 0 0] [[], [], []] := by
    refine ⟨?_, rfl, rfl, fun i v P hv hP => ?_, fun i j v v' _ hv _ => ?_⟩
    · have := Has.new (w.alloc (.cells #[.slice none 0 0, .slice none 0 0, .slice none 0 0] 94)) 94 #[.slice none 0 0, .slice none 0 0, .slice none 0 0]
      simpa using this
    · have hv2 := List.mem_of_getElem? hv
      have hP2 := List.mem_of_getElem? hP
      simp only [List.mem_cons, List.not_mem_nil, or_false, or_self] at hv2 hP2
      subst hv2
      subst hP2
      exact World.ownsRow_nil _ _ _ _
    · have hv2 := List.mem_of_getElem? hv
      simp only [List.mem_cons, List.not_mem_nil, or_false, or_self] at hv2
      subst hv2
      exact .inl rfl
  have hR0 : Has ((w.alloc (.cells #[.slice none 0 0, .slice none 0 0, .slice none 0 0] 94)).alloc (.cells #[.slice none 0 0, .slice none 0 0, .slice none 0 0] 94)) w.heap.size 94 #[.slice none 0 0, .slice none 0 0, .slice none 0 0] := (Has.new _ _ _).alloc _
  have hb0 : Below w.heap.size w ((w.alloc (.cells #[.slice none 0 0, .slice none 0 0, .slice none 0 0] 94)).alloc (.cells #[.slice none 0 0, .slice none 0 0, .slice none 0 0] 94)) := ((Below.refl _ _).alloc (Nat.le_refl _) _).alloc (by simp) _
  -- what the lists hold so far
  obtain ⟨CT, hCT⟩ : ∃ CT : Nat → Nat → List (List Pl) → World → Prop, CT = fun p j Ps W => (∀ (i : Nat) (P : List Pl), Ps[i]? = some P → P.map Pl.pk = kindL (pksAt Ss p j) ((i : Int) + 1) ∧ ∀ q ∈ P, ∃ o ∈ L, q.y ∈ o.l) ∧ Has W w.heap.size 94 #[.slice none 0 0, .slice none 0 0, .slice none 0 0] := ⟨_, rfl⟩
  have HCT := hidden hCT
  have HC00 : Hid (CT 0 0 [[], [], []] ((w.alloc (.cells #[.slice none 0 0, .slice none 0 0, .slice none 0 0] 94)).alloc (.cells #[.slice none 0 0, .slice none 0 0, .slice none 0 0] 94))) := by
    show CT _ _ _ _
    rw [hCT]
    refine ⟨fun i P hP => ?_, hR0⟩
    have hP2 := List.mem_of_getElem? hP
    simp only [List.mem_cons, List.not_mem_nil, or_false, or_self] at hP2
    subst hP2
    exact ⟨rfl, by simp⟩
  have HK0 := hidden hK0
  have HB0 := hidden hb0
  obtain ⟨g3, hg3⟩ : ∃ q, w.heap.size + 1 = q := ⟨_, rfl⟩
  rw [hg3] at HK0
  have HG3 := hidden hg3
  have hg3' : w.heap.size + 1 = g3 := hg3
  clear h hB hn hSs hfine hK0 hR0 hb0 hCT hg3
  go_enter Try.func56, Try.ntmps56
  go_wp2_with fail
  clear hg3'
  go_loopw [11] (fun i wr => ∃ (p : Nat) (vs : List Value) (Ps : List (List Pl)), i = .int .i64 p ∧ p ≤ n ∧ Hid (KL wr w.heap.size g3 vs Ps) ∧ Hid (Below w.heap.size w wr) ∧ Hid (CT p 0 Ps wr)) (fun i _ => n - (intOf i).toNat)
  case atStart => exact ⟨0, _, _, rfl, Nat.zero_le _, HK0, HB0, HC00⟩
  case round =>
    clear HK0 HB0 HC00
    obtain ⟨p, vs, Ps, rfl, hp, hK, hb, hC⟩ := hrel
    by_cases hlt : p < n
    · have hilt : (p : Int) < (n : Int) := by omega
      obtain ⟨b, off, y, rfl, hy, hss, hpp⟩ := HAT.out p hlt
      obtain ⟨⟨p0, p1⟩, _⟩ := hpp wr hb.out
      obtain ⟨q, hq⟩ : ∃ q, y.l.length = q := ⟨_, rfl⟩
      obtain ⟨qm, hqm⟩ : ∃ q, y.ms.length = q := ⟨_, rfl⟩
      rw [hq] at p0
      rw [hqm] at p1
      have hq8 : q ≤ 8 := by have := HFI.out.each _ (List.mem_of_getElem? hss); rw [List.length_map] at this; omega
      have HPP : Hid (∀ W, Below w.heap.size w W → Sects W w.heap.size y.a1 y.l) := fun W hW => (hpp W hW).2
      have HSS := hidden hss
      have HQ := hidden hq
      have HLT := hidden hlt
      have HYM := hidden (List.mem_of_getElem? hy)
      have HBo : Hid (Has (wr.alloc (.cells #[.slice y.a1 q y.c1, .slice y.a2 qm y.c2] 29)) wr.heap.size 29 #[.slice y.a1 q y.c1, .slice y.a2 qm y.c2]) := Has.new _ _ _
      have HK0 := hidden (hK.out.alloc (.cells #[.slice y.a1 q y.c1, .slice y.a2 qm y.c2] 29))
      have HB0 := hidden (hb.out.alloc hb.out.size (.cells #[.slice y.a1 q y.c1, .slice y.a2 qm y.c2] 29))
      have HC0 : Hid (CT p 0 Ps (wr.alloc (.cells #[.slice y.a1 q y.c1, .slice y.a2 qm y.c2] 29))) := by
        have := hC.out
        show CT _ _ _ _
        rw [HCT.out] at this ⊢
        exact ⟨this.1, this.2.alloc _⟩
      clear hy hss hpp hq hqm hK hb hC hlt hp
      go_wp2_with fail
      clear p0 p1 HBo
      go_loopw [19] (fun i wr => ∃ (j : Nat) (vs : List Value) (Ps : List (List Pl)), i = .int .i64 j ∧ j ≤ q ∧ Hid (KL wr w.heap.size g3 vs Ps) ∧ Hid (Below w.heap.size w wr) ∧ Hid (CT p j Ps wr)) (fun i _ => q - (intOf i).toNat)
      case atStart => exact ⟨0, vs, Ps, rfl, Nat.zero_le _, HK0, HB0, HC0⟩
      case round =>
        clear HK0 HB0 HC0
        obtain ⟨j, vs, Ps, rfl, hj, hK, hb, hC⟩ := hrel
        by_cases hjl : j < q
        · have hij : (j : Int) < (q : Int) := by omega
          have hsec := HPP.out wr hb.out
          have hjy : j < y.l.length := by rw [HQ.out]; exact hjl
          obtain ⟨b2, off2, ha1, hb2, t0, t1, t2, t3, t4, t5⟩ := hsec.at_ hjy
          obtain ⟨z, hz⟩ : ∃ z, y.l[j] = z := ⟨_, rfl⟩
          rw [hz] at t0 t1 t2 t3 t4 t5
          have hsj : (y.l.map Sp.s)[j]? = some z.s := by rw [List.getElem?_map, List.getElem?_eq_getElem hjy, hz]; rfl
          have hzm : z ∈ y.l := by rw [← hz]; exact List.getElem_mem hjy
          have hzok := HFI.out.ok _ (List.mem_of_getElem? HSS.out) _ (List.mem_of_getElem? hsj)
          obtain ⟨hk1, hk3'⟩ : 1 ≤ z.s.kind ∧ z.s.kind ≤ 3 := hzok.2.2
          obtain ⟨kk, hkk⟩ : ∃ kk : Nat, z.s.kind = (kk : Int) + 1 := ⟨(z.s.kind - 1).toNat, by omega⟩
          have hk3 : (kk : Int) < 3 := by omega
          obtain ⟨v, hv⟩ : ∃ v, vs[kk]? = some v := ⟨_, List.getElem?_eq_getElem (by have := hK.out.lenv; omega)⟩
          obtain ⟨PP, hPP⟩ : ∃ P, Ps[kk]? = some P := ⟨_, List.getElem?_eq_getElem (by have := hK.out.lenp; omega)⟩
          have hrow := hK.out.rows kk v PP hv hPP
          obtain ⟨va, vc, hvv⟩ := own_shape hrow
          obtain ⟨np, hnp⟩ : ∃ q, PP.length = q := ⟨_, rfl⟩
          rw [hnp] at hvv hrow
          subst hvv
          have hnp32 : np ≤ 1000 := by
            have hc := hC.out
            rw [HCT.out] at hc
            have h1 := congrArg List.length (hc.1 kk PP hPP).1
            rw [List.length_map] at h1
            have h2 := List.length_filter_le (fun q : Pk => decide (q.s.kind = (kk : Int) + 1)) (pksAt Ss p j)
            have h3 : (pksAt Ss p j).length ≤ 8 * p + j := by
              unfold pksAt
              rw [List.length_append, List.length_take]
              have := pksUp_few HFI.out.each p
              omega
            have := HLT.out
            unfold kindL at h1
            omega
          -- the lists with this section behind the others
          have HCN : Hid (∀ W', Has W' w.heap.size 94 #[.slice none 0 0, .slice none 0 0, .slice none 0 0] → CT p (j + 1) (Ps.set kk (PP ++ [⟨p, j, z⟩])) W') := fun W' hW' => by
            have hc := hC.out
            rw [HCT.out] at hc ⊢
            refine ⟨fun i P hP => ?_, hW'⟩
            rw [List.getElem?_set] at hP
            have hpn := pksAt_next HSS.out hsj
            by_cases e : kk = i
            · subst e
              rw [if_pos rfl, if_pos (List.getElem?_eq_some_iff.1 hPP).1] at hP
              injection hP with hP
              subst hP
              obtain ⟨h1, h2⟩ := hc.1 kk PP hPP
              refine ⟨?_, fun q hq => ?_⟩
              · rw [hpn, kindL_yes hkk, List.map_append, h1]
                rfl
              · rcases List.mem_append.1 hq with hq | hq
                · exact h2 q hq
                · rw [List.mem_singleton.1 hq]; exact ⟨y, HYM.out, hzm⟩
            · rw [if_neg e] at hP
              obtain ⟨h1, h2⟩ := hc.1 i P hP
              refine ⟨?_, h2⟩
              rw [hpn, kindL_no (by show z.s.kind ≠ _; omega)]
              exact h1
          have HRES : Hid (Has wr w.heap.size 94 #[.slice none 0 0, .slice none 0 0, .slice none 0 0]) := by have hc := hC.out; rw [HCT.out] at hc; exact hc.2
          have HPC : Hid ((⟨p, j, z⟩ : Pl).cells = (⟨p, j, z⟩ : Pl).cells) := rfl
          obtain ⟨PZ, hPZ⟩ : ∃ q : Pl, (⟨p, j, z⟩ : Pl) = q := ⟨_, rfl⟩
          have HPZ := hidden hPZ
          rw [hPZ] at HCN
          have hcells : PZ.cells = [.int .i64 (p : Int), .int .i64 (j : Int), .string z.s.name, .int .i64 z.s.kind, .int .i64 z.s.align, .slice z.a1 z.s.bytes.length z.c1, .int .i64 z.s.size, .slice z.a2 z.s.fixs.length z.c2] := by rw [← hPZ]; rfl
          have hsubk : IntKind.i64.wrap (z.s.kind - 1) = (kk : Int) := by
            have h1 : z.s.kind - 1 = (kk : Int) := by omega
            rw [h1]
            exact IntWalk.i64_in _ (by omega)
          obtain ⟨⟨nm, kd, al, bs, sz, fs⟩, z1, d1, z2, d2⟩ := z
          dsimp only at t0 t1 t2 t3 t4 t5 hcells hsubk
          obtain ⟨nb, hnb⟩ : ∃ q, bs.length = q := ⟨_, rfl⟩
          obtain ⟨nf, hnf⟩ : ∃ q, fs.length = q := ⟨_, rfl⟩
          rw [hnb] at t3 hcells
          rw [hnf] at t5 hcells
          have HJL := hidden hjl
          obtain ⟨W2, hW2⟩ : ∃ q, (wr.alloc (.cells #[.string nm, .int .i64 kd, .int .i64 al, .slice z1 nb d1, .int .i64 sz, .slice z2 nf d2] 42)) = q := ⟨_, rfl⟩
          obtain ⟨bx, hbx⟩ : ∃ q, wr.heap.size = q := ⟨_, rfl⟩
          have hKa := hK.out.alloc (.cells #[.string nm, .int .i64 kd, .int .i64 al, .slice z1 nb d1, .int .i64 sz, .slice z2 nf d2] 42)
          have hBa := hb.out.alloc hb.out.size (.cells #[.string nm, .int .i64 kd, .int .i64 al, .slice z1 nb d1, .int .i64 sz, .slice z2 nf d2] 42)
          have hRa := HRES.out.alloc (.cells #[.string nm, .int .i64 kd, .int .i64 al, .slice z1 nb d1, .int .i64 sz, .slice z2 nf d2] 42)
          have hSa : Has (wr.alloc (.cells #[.string nm, .int .i64 kd, .int .i64 al, .slice z1 nb d1, .int .i64 sz, .slice z2 nf d2] 42)) wr.heap.size 42 #[.string nm, .int .i64 kd, .int .i64 al, .slice z1 nb d1, .int .i64 sz, .slice z2 nf d2] := Has.new _ _ _
          rw [hW2] at hKa hBa hRa
          rw [hW2, hbx] at hSa
          have HBX2 := hidden hSa
          obtain ⟨X, hX⟩ : ∃ X : World → Prop, X = fun W => Below w.heap.size w W ∧ CT p (j + 1) (Ps.set kk (PP ++ [PZ])) W := ⟨_, rfl⟩
          have HX := hidden hX
          have HOWA : Hid ((W2.drew.alloc (.cells #[.int .i64 (p : Int), .int .i64 (j : Int), .string nm, .int .i64 kd, .int .i64 al, .slice z1 nb d1, .int .i64 sz, .slice z2 nf d2] 121)).ownsRow w.heap.size 121 8 (.slice va np vc) np (flatP PP)) := by
            have := hKa.rows kk _ PP hv hPP
            rw [hnp] at this
            exact World.ownsRow.alloc this.drew _
          have HLOW : Hid (w.heap.size ≤ (W2.drew.alloc (.cells #[.int .i64 (p : Int), .int .i64 (j : Int), .string nm, .int .i64 kd, .int .i64 al, .slice z1 nb d1, .int .i64 sz, .slice z2 nf d2] 121)).heap.size) := (hBa.drew.alloc (show w.heap.size ≤ W2.drew.heap.size from hBa.size) _).size
          have HVK : Hid (vs.toArray[kk]? = some (.slice va np vc)) := by show _ = _; rw [List.getElem?_toArray]; exact hv
          have HC0 : Hid (∀ W, Below W2.drew.heap.size W2.drew W → W.cell? ⟨g3, kk, none⟩ = some (.slice va np vc)) := fun W hW => by
            have h1 : Has W2.drew g3 94 vs.toArray := hKa.obj
            exact ((h1.below hW h1.lt).cell kk).trans HVK.out
          have HONE : Hid (∀ u ∈ ([.int .i64 (p : Int), .int .i64 (j : Int), .string nm, .int .i64 kd, .int .i64 al, .slice z1 nb d1, .int .i64 sz, .slice z2 nf d2] : List Value), u.oneCell' = true) := fun u hu => by
            simp only [List.mem_cons, List.not_mem_nil, or_false] at hu
            rcases hu with rfl | rfl | rfl | rfl | rfl | rfl | rfl | rfl <;> rfl
          have hJ0 : (JApp (fun W => Has W bx 42 #[.string nm, .int .i64 kd, .int .i64 al, .slice z1 nb d1, .int .i64 sz, .slice z2 nf d2]) W2.drew #[.int .i64 (p : Int), .int .i64 (j : Int), .string nm, .int .i64 kd, .int .i64 al, .slice z1 nb d1, .int .i64 sz, .slice z2 nf d2] 121 (PAk w.heap.size g3 kk np vs (Ps.set kk (PP ++ [PZ])) X) (ZAk w.heap.size g3 kk np vs (Ps.set kk (PP ++ [PZ])) X)) 0 W2.drew fun _ => undef := ⟨hSa.drew, rfl⟩
          have HRK : Hid (∀ (w' : World), (W2.drew.alloc (.cells #[.int .i64 (p : Int), .int .i64 (j : Int), .string nm, .int .i64 kd, .int .i64 al, .slice z1 nb d1, .int .i64 sz, .slice z2 nf d2] 121)).grownBy w' (Value.slice va np vc).ownBlock → Has w' bx 42 #[.string nm, .int .i64 kd, .int .i64 al, .slice z1 nb d1, .int .i64 sz, .slice z2 nf d2]) := fun w' hg => (hSa.drew.alloc _).grown hg ((hSa.drew.alloc _).other HOWA.out (by decide))
          have HAP : Hid (∀ (w' : World) (b9 : Option Addr) (d9 : Nat), w'.ownsRow w.heap.size 121 8 (.slice b9 (np + 1) d9) (np + 1) (flatP PP ++ [.int .i64 (p : Int), .int .i64 (j : Int), .string nm, .int .i64 kd, .int .i64 al, .slice z1 nb d1, .int .i64 sz, .slice z2 nf d2]) → (W2.drew.alloc (.cells #[.int .i64 (p : Int), .int .i64 (j : Int), .string nm, .int .i64 kd, .int .i64 al, .slice z1 nb d1, .int .i64 sz, .slice z2 nf d2] 121)).grownBy w' (Value.slice va np vc).ownBlock → ((Value.slice b9 (np + 1) d9).ownBlock = (Value.slice va np vc).ownBlock ∨ w'.ownsRow (W2.drew.alloc (.cells #[.int .i64 (p : Int), .int .i64 (j : Int), .string nm, .int .i64 kd, .int .i64 al, .slice z1 nb d1, .int .i64 sz, .slice z2 nf d2] 121)).heap.size 121 8 (.slice b9 (np + 1) d9) (np + 1) (flatP PP ++ [.int .i64 (p : Int), .int .i64 (j : Int), .string nm, .int .i64 kd, .int .i64 al, .slice z1 nb d1, .int .i64 sz, .slice z2 nf d2])) → PAk w.heap.size g3 kk np vs (Ps.set kk (PP ++ [PZ])) X w' (.slice b9 (np + 1) d9)) := fun w' b9 d9 h2 h3 h4 => by
            rw [← hcells] at h2
            have hKd := (hKa.drewN 1).alloc (.cells #[.int .i64 (p : Int), .int .i64 (j : Int), .string nm, .int .i64 kd, .int .i64 al, .slice z1 nb d1, .int .i64 sz, .slice z2 nf d2] 121)
            obtain ⟨q1, q2⟩ := hKd.app (p := PZ) hv hPP (by rw [hnp]; exact h2) h3 (by
              rw [hnp]
              rcases h4 with h4 | h4
              · exact .inl h4
              · refine .inr ?_
                rw [hcells]
                exact h4)
            refine ⟨b9, d9, rfl, q1, q2, ?_⟩
            rw [HX.out]
            have hbd : Below w.heap.size w (W2.drew.alloc (.cells #[.int .i64 (p : Int), .int .i64 (j : Int), .string nm, .int .i64 kd, .int .i64 al, .slice z1 nb d1, .int .i64 sz, .slice z2 nf d2] 121)) := hBa.drew.alloc (show w.heap.size ≤ W2.drew.heap.size from hBa.size) _
            have hb2 : Below w.heap.size w w' := hbd.grown h3 hbd.size (fun q hq => (HOWA.out.lt q hq).1)
            have hr2 : Has w' w.heap.size 94 #[.slice none 0 0, .slice none 0 0, .slice none 0 0] := (hRa.drew.alloc _).grown h3 ((hRa.drew.alloc _).other HOWA.out (by decide))
            refine ⟨hb2.setCell (p := ⟨g3, kk, none⟩) (by show _ ≤ g3; have := HG3.out; omega) _, HCN.out _ (hr2.away (p := ⟨g3, kk, none⟩) (by show _ ≠ g3; have := HG3.out; omega) _)⟩
          have HJ0 := hidden hJ0
          have HW2 := hidden hW2
          have HBX := hidden hbx
          clear hjy hz hsj hzm hzok hkk hk1 hk3' hv hPP hrow hnp HPC hPZ HPZ hcells hnb hnf hjl hKa hBa hRa hSa hX hJ0 hW2 hbx hK hb hC HRES HCN hsec hb2
          go_upto_region 8 with fail
          rw [HW2.out, HBX.out]
          clear HW2 HBX t0 t1 t2 t3 t4 t5
          have k1 := HBX2.out.cell 1
          go_upto_region 9 with fail
          clear k1
          refine wp_region_chain (m := 3) (js := [.quiet (.int .i64 (kk : Int)) 3, .quiet (.int .i64 (kk : Int)) 3, .quiet (.pointer (some ⟨g3, kk, none⟩)) 3, .quiet (.slice va np vc) 1, .quiet (.int .i64 (p : Int)) 3, .quiet (.int .i64 (j : Int)) 3, .quiet (.agg #[.string nm, .int .i64 kd, .int .i64 al, .slice z1 nb d1, .int .i64 sz, .slice z2 nf d2]) 3, .quiet (.agg #[.int .i64 (p : Int), .int .i64 (j : Int), .string nm, .int .i64 kd, .int .i64 al, .slice z1 nb d1, .int .i64 sz, .slice z2 nf d2]) 3, .chain 0, .chain 1, .quiet (.pointer (some ⟨g3, kk, none⟩)) 3, .chain 2]) (by kernel_rfl) (JApp (fun W => Has W bx 42 #[.string nm, .int .i64 kd, .int .i64 al, .slice z1 nb d1, .int .i64 sz, .slice z2 nf d2]) W2.drew #[.int .i64 (p : Int), .int .i64 (j : Int), .string nm, .int .i64 kd, .int .i64 al, .slice z1 nb d1, .int .i64 sz, .slice z2 nf d2] 121 (PAk w.heap.size g3 kk np vs (Ps.set kk (PP ++ [PZ])) X) (ZAk w.heap.size g3 kk np vs (Ps.set kk (PP ++ [PZ])) X)) (by kernel_rfl) (by kernel_rfl) ⟨fun _ => undef, HJ0.out⟩ (fun vals => ?_) ?_
          · show SeqW _ _ _ _ _ _ _
            refine ⟨fun kk hkk W hW => ?_, ?_⟩
            · unfold Oper.wp
              simp [go_sem]
              try exact ⟨_, rfl, rfl⟩
            simp only [Act.put, List.setIfInBounds_toArray, List.set_cons_succ, List.set_cons_zero]
            refine ⟨fun kk hkk W hW => ?_, ?_⟩
            · unfold Oper.wp
              simp [go_sem]
              try exact ⟨_, rfl, rfl⟩
            simp only [Act.put, List.setIfInBounds_toArray, List.set_cons_succ, List.set_cons_zero]
            refine ⟨fun kk hkk W hW => ?_, ?_⟩
            · have q := hk3
              unfold Oper.wp
              simp [go_sem, q]
              try exact ⟨_, rfl, rfl⟩
            simp only [Act.put, List.setIfInBounds_toArray, List.set_cons_succ, List.set_cons_zero]
            refine ⟨fun kk hkk W hW => ?_, ?_⟩
            · have q := HC0.out W (JApp.low hW hkk)
              unfold Oper.wp
              simp [go_sem, q]
              try exact ⟨_, rfl, rfl⟩
            simp only [Act.put, List.setIfInBounds_toArray, List.set_cons_succ, List.set_cons_zero]
            refine ⟨fun kk hkk W hW => ?_, ?_⟩
            · unfold Oper.wp
              simp [go_sem]
              try exact ⟨_, rfl, rfl⟩
            simp only [Act.put, List.setIfInBounds_toArray, List.set_cons_succ, List.set_cons_zero]
            refine ⟨fun kk hkk W hW => ?_, ?_⟩
            · unfold Oper.wp
              simp [go_sem]
              try exact ⟨_, rfl, rfl⟩
            simp only [Act.put, List.setIfInBounds_toArray, List.set_cons_succ, List.set_cons_zero]
            refine ⟨fun kk hkk W hW => ?_, ?_⟩
            · have hq := JApp.all hW
              have q0 := hq.cell 0
              have q1 := hq.cell 1
              have q2 := hq.cell 2
              have q3 := hq.cell 3
              have q4 := hq.cell 4
              have q5 := hq.cell 5
              unfold Oper.wp
              simp [go_sem, q0, q1, q2, q3, q4, q5]
              try exact ⟨_, rfl, rfl⟩
            simp only [Act.put, List.setIfInBounds_toArray, List.set_cons_succ, List.set_cons_zero]
            refine ⟨fun kk hkk W hW => ?_, ?_⟩
            · unfold Oper.wp
              simp [go_sem]
              try exact ⟨_, rfl, rfl⟩
            simp only [Act.put, List.setIfInBounds_toArray, List.set_cons_succ, List.set_cons_zero]
            refine ⟨fun W hW => ?_, ?_⟩
            · obtain ⟨hR, rfl⟩ := hW
              have hN : JApp (fun W => Has W bx 42 #[.string nm, .int .i64 kd, .int .i64 al, .slice z1 nb d1, .int .i64 sz, .slice z2 nf d2]) W2.drew #[.int .i64 (p : Int), .int .i64 (j : Int), .string nm, .int .i64 kd, .int .i64 al, .slice z1 nb d1, .int .i64 sz, .slice z2 nf d2] 121 (PAk w.heap.size g3 kk np vs (Ps.set kk (PP ++ [PZ])) X) (ZAk w.heap.size g3 kk np vs (Ps.set kk (PP ++ [PZ])) X) 1 (W2.drew.alloc (.cells #[.int .i64 (p : Int), .int .i64 (j : Int), .string nm, .int .i64 kd, .int .i64 al, .slice z1 nb d1, .int .i64 sz, .slice z2 nf d2] 121)) (upd vals 0 (.slice (some ⟨W2.drew.heap.size, 0, none⟩) 1 1)) := ⟨hR.alloc _, rfl, rfl⟩
              unfold Oper.wp
              simp [go_sem]
              first | exact hN | exact ⟨_, rfl, hN⟩
            simp only [Act.put, List.setIfInBounds_toArray, List.set_cons_succ, List.set_cons_zero]
            refine ⟨fun W hW => ?_, ?_⟩
            · obtain ⟨hR, rfl, hv⟩ := hW
              refine wp_append_fresh _ _ 93 121 rfl _ 8 104 Try.info_listed Try.underlying93 rfl (by decide) (by decide) w.heap.size (.slice va np vc) np (flatP PP) rfl HOWA.out W2.drew.heap.size 0 1 1 [.int .i64 (p : Int), .int .i64 (j : Int), .string nm, .int .i64 kd, .int .i64 al, .slice z1 nb d1, .int .i64 sz, .slice z2 nf d2] hv rfl (by omega) (fun t u ht => by rw [Nat.zero_add]; exact ((Has.new W2.drew 121 #[.int .i64 (p : Int), .int .i64 (j : Int), .string nm, .int .i64 kd, .int .i64 al, .slice z1 nb d1, .int .i64 sz, .slice z2 nf d2]).cell t).trans (by simpa using ht)) HONE.out (by omega) HLOW.out ?_
              intro v' w' h2 h3 h4
              obtain ⟨b9, d9, rfl⟩ := own_shape h2
              exact ⟨_, rfl, (⟨HRK.out w' h3, HAP.out w' b9 d9 h2 h3 h4⟩ : JApp (fun W => Has W bx 42 #[.string nm, .int .i64 kd, .int .i64 al, .slice z1 nb d1, .int .i64 sz, .slice z2 nf d2]) W2.drew #[.int .i64 (p : Int), .int .i64 (j : Int), .string nm, .int .i64 kd, .int .i64 al, .slice z1 nb d1, .int .i64 sz, .slice z2 nf d2] 121 (PAk w.heap.size g3 kk np vs (Ps.set kk (PP ++ [PZ])) X) (ZAk w.heap.size g3 kk np vs (Ps.set kk (PP ++ [PZ])) X) 2 w' (upd vals 1 (.slice b9 (np + 1) d9)))⟩
            simp only [Act.put, List.setIfInBounds_toArray, List.set_cons_succ, List.set_cons_zero]
            refine ⟨fun kk hkk W hW => ?_, ?_⟩
            · have q := hk3
              unfold Oper.wp
              simp [go_sem, q]
              try exact ⟨_, rfl, rfl⟩
            simp only [Act.put, List.setIfInBounds_toArray, List.set_cons_succ, List.set_cons_zero]
            refine ⟨fun W hW => ?_, trivial⟩
            obtain ⟨hR, b9, d9, hv9, q1, q2⟩ := hW
            rw [hv9]
            obtain ⟨ck, fk⟩ : W.cell? ⟨g3, kk, none⟩ = some (.slice va np vc) ∧ W.frozen? ⟨g3, kk, none⟩ = false := ⟨(q1.cell kk).trans HVK.out, q1.free kk⟩
            have hN : ∀ u, JApp (fun W => Has W bx 42 #[.string nm, .int .i64 kd, .int .i64 al, .slice z1 nb d1, .int .i64 sz, .slice z2 nf d2]) W2.drew #[.int .i64 (p : Int), .int .i64 (j : Int), .string nm, .int .i64 kd, .int .i64 al, .slice z1 nb d1, .int .i64 sz, .slice z2 nf d2] 121 (PAk w.heap.size g3 kk np vs (Ps.set kk (PP ++ [PZ])) X) (ZAk w.heap.size g3 kk np vs (Ps.set kk (PP ++ [PZ])) X) 3 (W.setCell ⟨g3, kk, none⟩ (.slice b9 (np + 1) d9)) (upd vals 2 u) := fun u => ⟨hR.away (p := ⟨g3, kk, none⟩) (hR.differ q1 (by decide)) _, b9, d9, q2⟩
            clear q1 q2 hR
            unfold Oper.wp
            simp [go_sem, ck, fk]
            first | exact hN _ | exact ⟨undef, hN _⟩ | exact ⟨_, rfl, hN _⟩
          · intro W vals hJ
            simp only [putAll, List.map_cons, List.map_nil, Job.val, Act.put, List.setIfInBounds_toArray, List.set_cons_succ, List.set_cons_zero]
            obtain ⟨hR, b9, d9, hK9, hX9⟩ := hJ
            rw [HX.out] at hX9
            obtain ⟨hB9, hC9⟩ := hX9
            have HK9 := hidden hK9
            have HB9 := hidden hB9
            have HC9 := hidden hC9
            clear hR hK9 hB9 hC9 HC0 HOWA HONE HRK HAP HVK HLOW HBX2 HJ0 HX
            go_wp2_with fail
            go_roundw
            case rel => exact ⟨j + 1, _, _, by go_num, HJL.out, HK9, HB9, HC9⟩
            case measure => have := HJL.out; simp [intOf]; omega
        · have hij : ¬ (j : Int) < (q : Int) := by omega
          have HC0 : Hid (CT (p + 1) 0 Ps wr) := by
            have hc := hC.out
            show CT _ _ _ _
            rw [HCT.out] at hc ⊢
            rw [pksAt_all HSS.out (by rw [List.length_map, HQ.out]; omega)] at hc
            rw [pksAt_zero]
            exact hc
          clear hjl hj hC
          go_wp2_with fail
          go_roundw
          case rel => exact ⟨p + 1, vs, Ps, by go_num, HLT.out, hK, hb, HC0⟩
          case measure => have := HLT.out; simp [intOf]; omega
    · have hilt : ¬ (p : Int) < (n : Int) := by omega
      have hpn : p = n := by omega
      have hc := hC.out
      rw [HCT.out] at hc
      obtain ⟨hc1, hc2⟩ := hc
      rw [pksAt_zero, hpn, ← HSN.out] at hc1
      have hKK := hK.out
      obtain ⟨v1, v2, v3, rfl⟩ : ∃ a b c, vs = [a, b, c] := by
        match vs, hKK.lenv with
        | [a, b, c], _ => exact ⟨a, b, c, rfl⟩
      obtain ⟨P1, P2, P3, rfl⟩ : ∃ a b c, Ps = [a, b, c] := by
        match Ps, hKK.lenp with
        | [a, b, c], _ => exact ⟨a, b, c, rfl⟩
      obtain ⟨x1, y1, hv1⟩ := own_shape (hKK.rows 0 v1 P1 rfl rfl)
      obtain ⟨x2, y2, hv2⟩ := own_shape (hKK.rows 1 v2 P2 rfl rfl)
      obtain ⟨x3, y3, hv3⟩ := own_shape (hKK.rows 2 v3 P3 rfl rfl)
      obtain ⟨n1, hn1⟩ : ∃ q, P1.length = q := ⟨_, rfl⟩
      obtain ⟨n2, hn2⟩ : ∃ q, P2.length = q := ⟨_, rfl⟩
      obtain ⟨n3, hn3⟩ : ∃ q, P3.length = q := ⟨_, rfl⟩
      rw [hn1] at hv1
      rw [hn2] at hv2
      rw [hn3] at hv3
      have r0 : wr.cell? ⟨g3, 0, none⟩ = some (.slice x1 n1 y1) := by rw [← hv1]; exact hKK.obj.cell 0
      have r1 : wr.cell? ⟨g3, 1, none⟩ = some (.slice x2 n2 y2) := by rw [← hv2]; exact hKK.obj.cell 1
      have r2 : wr.cell? ⟨g3, 2, none⟩ = some (.slice x3 n3 y3) := by rw [← hv3]; exact hKK.obj.cell 2
      have e0 : wr.cell? ⟨w.heap.size, 0, none⟩ = some (.slice none 0 0) := hc2.cell 0
      have e1 : wr.cell? ⟨w.heap.size, 1, none⟩ = some (.slice none 0 0) := hc2.cell 1
      have e2 : wr.cell? ⟨w.heap.size, 2, none⟩ = some (.slice none 0 0) := hc2.cell 2
      have f0 : wr.frozen? ⟨w.heap.size, 0, none⟩ = false := hc2.free 0
      have f1 : wr.frozen? ⟨w.heap.size, 1, none⟩ = false := hc2.free 1
      have f2 : wr.frozen? ⟨w.heap.size, 2, none⟩ = false := hc2.free 2
      obtain ⟨W9, hW9⟩ : ∃ q, ((wr.setCell ⟨w.heap.size, 0, none⟩ (.slice x1 n1 y1)).setCell ⟨w.heap.size, 1, none⟩ (.slice x2 n2 y2)).setCell ⟨w.heap.size, 2, none⟩ (.slice x3 n3 y3) = q := ⟨_, rfl⟩
      have hH9 : Has W9 w.heap.size 94 #[.slice x1 n1 y1, .slice x2 n2 y2, .slice x3 n3 y3] := by rw [← hW9]; exact ((hc2.put 0 _).put 1 _).put 2 _
      have hg9 : wr.grownBy W9 (some w.heap.size) := by rw [← hW9]; exact only_trans (only_trans (only_put' 0 _) (only_put' 1 _)) (only_put' 2 _)
      have hb9 : Below w.heap.size w W9 := hb.out.grown hg9 hb.out.size (by intro q hq; injection hq with hq; omega)
      have hK9 : KL W9 w.heap.size g3 [v1, v2, v3] [P1, P2, P3] := ⟨hKK.obj.grown hg9 (by intro e; injection e with e; have := HG3.out; omega), rfl, rfl, fun i v P h1 h2 => (hKK.rows i v P h1 h2).kept hg9 (row_apart (hKK.rows i v P h1 h2) hc2 (by decide)), hKK.apart⟩
      have HANS : Hid (ByKind w L Ss (.returned (.agg #[.slice x1 n1 y1, .slice x2 n2 y2, .slice x3 n3 y3])) W9) := by
        refine ⟨g3, [v1, v2, v3], [P1, P2, P3], ?_, hK9, hb9, hc1⟩
        rw [hv1, hv2, hv3]
      have HH9 := hidden hH9
      have HW9 := hidden hW9
      clear hpn hc1 hc2 hKK hv1 hv2 hv3 hn1 hn2 hn3 hH9 hg9 hb9 hK9 hW9 hK hb hC hlt hp
      go_wp2_with fail
      rw [HW9.out]
      refine bodyPost_ret (results_cell_row rfl _ _ w.heap.size 94 #[.slice x1 n1 y1, .slice x2 n2 y2, .slice x3 n3 y3] (0, 0) _ rfl HH9.out Try.underlying94 rfl (by kernel_rfl)) rfl ?_
      exact HANS.out

end Go.Proofs.Ytiocchmlmcoieaa

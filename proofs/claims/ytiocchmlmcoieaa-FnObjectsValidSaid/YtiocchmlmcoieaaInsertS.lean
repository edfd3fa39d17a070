/-
  Contract of spec.l2Insert.
-/
import Derived.Test.YtiocchmlmcoieaaRegion
import Derived.Test.YtiocchmlmcoieaaMem
import Derived.Test.YtiocchmlmcoieaaDrawN
import Derived.WalkLawsBesides
namespace Go.Proofs.Ytiocchmlmcoieaa
open Go.RowKit

theorem not_needed {ops : Array Oper} {D : Nat → Prop} {i j : Nat} (us : List Nat) (hu : users ops j = us) (h : NeededBy ops D i j) (hall : ∀ u ∈ us, u = i ∨ D u) (hne : us ≠ []) : False := by
  obtain ⟨_, h⟩ := h
  rw [hu] at h
  rcases h with h | ⟨u, h1, h2, h3⟩
  · exact hne h
  · rcases hall u h1 with h | h
    · exact h2 h
    · exact h3 h
theorem one_strs (ss : List ByteArray) : ∀ u ∈ ss.map Value.string, u.oneCell' = true := by
  intro u hu
  obtain ⟨s, _, rfl⟩ := List.mem_map.1 hu
  rfl
theorem one_strs' (s : ByteArray) : ∀ u ∈ [Value.string s], u.oneCell' = true := by
  intro u hu; simp at hu; subst hu; rfl
theorem one_cell {w : World} {h : Nat} {T : TypeId} {u : Value} (hh : Has w h T #[u]) : ∀ j x, [u][j]? = some x → w.cell? ⟨h, 0 + j, none⟩ = some x := by
  intro j x hx
  rw [Nat.zero_add, hh.cell]
  match j, hx with
  | 0, hx => simpa using hx
def insTys (L : List ByteArray) (lst : Value) (k : Nat) (s : ByteArray) : List TyB :=
  [.empty, .val lst, .val (.int .i64 k), .part ((L.take k).map Value.string), .row ((L.take k).map Value.string), .val (.string s), .one (.string s),
   .row ((L.take k).map Value.string ++ [.string s]), .val lst, .val (.int .i64 k), .part ((L.drop k).map Value.string), .row ((L.take k).map Value.string ++ [.string s] ++ (L.drop k).map Value.string), .row ((L.take k).map Value.string ++ [.string s] ++ (L.drop k).map Value.string)]

/-- What l2Insert leaves: a slice that reads as the list with the text in it. -/
def Inserted (w : World) (L : List ByteArray) (s : ByteArray) (e : Ending) (w' : World) : Prop :=
  ∃ (b off c : Nat), e = .returned (.slice (some ⟨b, off, none⟩) (insertS L s).length c) ∧ (insertS L s).length ≤ c ∧ c ≤ maxLen ∧ b < w'.heap.size ∧
    (∀ i u, ((insertS L s).map Value.string)[i]? = some u → w'.cell? ⟨b, off + i, none⟩ = some u) ∧ Below w.heap.size w w'
set_option maxRecDepth 100000 in
set_option maxHeartbeats 8000000 in
theorem l2Insert_any (w : World) (b off cap : Nat) (L : List ByteArray) (s : ByteArray) (hb : b < w.heap.size) (hc : ∀ i u, (L.map Value.string)[i]? = some u → w.cell? ⟨b, off + i, none⟩ = some u) (hcap : L.length ≤ cap) (hmax : cap ≤ maxLen) (hL : L.length ≤ 1000) :
    Calls Try.prog 70 #[.slice (some ⟨b, off, none⟩) L.length cap, .string s] w (Inserted w L s) := by
  obtain ⟨len, hlen⟩ : ∃ n, n = L.length := ⟨_, rfl⟩
  have hcap' : cap ≤ 9223372036854775807 := by unfold maxLen at hmax; omega
  have hcl : len ≤ cap := by omega
  have hl1 : len ≤ 1000 := by omega
  have HC := hidden hc
  have HL := hidden hlen
  have HM := hidden hmax
  rw [← hlen]
  clear hc hlen hcap hL hmax
  go_enter Try.func70, Try.ntmps70
  go_wp2
  go_loop [5] (fun i => ∃ k : Nat, k ≤ len ∧ i = .int .i64 k ∧ Hid (∀ j x, j < k → L[j]? = some x → ltS x s = true)) (fun i => len - (intOf i).toNat)
  case atStart => exact ⟨0, Nat.zero_le _, rfl, hidden (by intro j x hj; omega)⟩
  case round =>
    obtain ⟨k, hk, rfl, hbef⟩ := hrel
    by_cases hlt : k < len
    · have hlL : k < L.length := by rw [← HL.out]; exact hlt
      have e := HC.out k (.string L[k]) (by simp [List.getElem?_eq_getElem hlL])
      have hx : L[k]? = some L[k] := List.getElem?_eq_getElem hlL
      obtain ⟨x, hxx⟩ : ∃ x, L[k] = x := ⟨_, rfl⟩
      rw [hxx] at e hx
      have HX := hidden hx
      clear hx hxx hlL
      have hi : (k : Int) < (len : Int) := by omega
      rcases hq : ltS x s with _ | _
      · have hp : posS L s = k := posS_at L s k (by rw [← HL.out]; exact hk) hbef.out (fun y hy => by rw [HX.out] at hy; injection hy with hy; subst hy; exact hq)
        have hq' : Op.bytesLess x.toList s.toList = false := hq
        by_cases he : x = s
        · have HI : Hid (insertS L s = L) := by show _ = _; unfold insertS; rw [hp, if_pos (by rw [HX.out, he])]
          subst he
          have hfin : Hid (Inserted w L x (.returned (.slice (some ⟨b, off, none⟩) len cap)) w) := ⟨b, off, cap, by rw [HI.out, ← HL.out], by rw [HI.out, ← HL.out]; exact hcl, HM.out, hb, by rw [HI.out]; exact HC.out, Below.refl _ _⟩
          clear HX hbef hp hq HI
          go_wp2
          go_ret
          exact hfin.out
        · have HI : Hid (insertS L s = L.take k ++ s :: L.drop k) := by
            show _ = _; unfold insertS; rw [hp, if_neg (by rw [HX.out]; intro h; injection h with h; exact he h)]
          have hne := str_ne he
          clear HX hbef hp hq he
          go_wp2
          have hlT : ((L.take k).map Value.string).length = k := by rw [List.length_map, List.length_take, ← HL.out]; omega
          have hlD : ((L.drop k).map Value.string).length = len - k := by rw [List.length_map, List.length_drop, ← HL.out]
          have ht : Try.prog.underlying 83 = some (.slice (Try.prog.elem 83)) := by kernel_rfl
          have hz : ∀ W, (sizeOf (Try.prog.elem 83)).run Try.prog W = .ok 1 W := fun W => by kernel_rfl
          have hslT : ∀ W : World, (Instr.slice 83 (.slice (some ⟨b, off, none⟩) len cap) none (some (.int .i64 (k : Int))) none).run Try.prog W = .ok (.slice (some ⟨b, off, none⟩) k cap) W := fun W => by
            rw [run_slice_h W 83 (some ⟨b, off, none⟩) len cap ht .i64 (k : Int) (by omega) (by omega), hz]
            simp [Result.andThen, sliced, Addr.add]
          obtain ⟨od, hod, hodd⟩ : ∃ od, od = (if cap = k then off else off + k) ∧ ((L.drop k).map Value.string ≠ [] → od = off + k) := ⟨_, rfl, fun h => by
            rw [if_neg]; intro e; apply h; apply List.eq_nil_of_length_eq_zero; rw [hlD]; omega⟩
          have hslD : ∀ W : World, (Instr.slice 83 (.slice (some ⟨b, off, none⟩) len cap) (some (.int .i64 (k : Int))) none none).run Try.prog W = .ok (.slice (some ⟨b, od, none⟩) (len - k) (cap - k)) W := fun W => by
            rw [run_slice_l W 83 (some ⟨b, off, none⟩) len cap ht .i64 (k : Int) (by omega) (by omega), hz, hod]
            by_cases hck : cap = k <;> simp [Result.andThen, sliced, hck, Addr.add] <;> (intro h; omega)
          have hpartT : ∀ W, Below w.heap.size w W → TypedB w.heap.size 9 (insTys L (.slice (some ⟨b, off, none⟩) len cap) k s) 3 W (.slice (some ⟨b, off, none⟩) k cap) := fun W hW => by
            refine ⟨b, off, cap, by rw [hlT], hb, fun i u hi => (hW.cell hb).trans (HC.out i u ?_)⟩
            rw [List.map_take, List.getElem?_take] at hi
            split at hi
            · exact hi
            · cases hi
          have hpartD : ∀ W, Below w.heap.size w W → TypedB w.heap.size 9 (insTys L (.slice (some ⟨b, off, none⟩) len cap) k s) 10 W (.slice (some ⟨b, od, none⟩) (len - k) (cap - k)) := fun W hW => by
            refine ⟨b, od, cap - k, by rw [hlD], hb, fun i u hi => (hW.cell hb).trans ?_⟩
            rw [hodd (by intro h; rw [h] at hi; simp at hi), Nat.add_assoc]
            apply HC.out (k + i) u
            rw [List.map_drop, List.getElem?_drop] at hi
            exact hi
          have HST := hidden hslT
          have HSD := hidden hslD
          clear hslT hslD
          refine wp_region_typed2_lit (by kernel_rfl) (fun _ W => Below w.heap.size w W) (TypedB w.heap.size 9 (insTys L (.slice (some ⟨b, off, none⟩) len cap) k s)) (by kernel_rfl) (fun _ _ h => h) (Below.refl _ _).drew ?_ ?_
          · refine ⟨?_, ?_, ?_, ?_, ?_, ?_, ?_, ?_, ?_, ?_, ?_, ?_, ?_, trivial⟩
            · intro n a wr D hn hJ hdn hpr hnd ho hp
              unfold Oper.wp
              simp [go_sem]
              exact After2.mk _ rfl (hJ.alloc hJ.size _) (fun j u _ h => TyB.alloc hJ.size _ _ _ h) ⟨wr.heap.size, rfl, hJ.size, Has.new _ _ _⟩
            · intro n a wr D hn hJ hdn hpr hnd ho hp
              have h := ho 0 (unwritten_dst (by kernel_rfl))
              exact wp_move' rfl (After2.mk _ rfl hJ (fun _ _ _ h => h) h)
            · intro n a wr D hn hJ hdn hpr hnd ho hp
              have h := ho 5 (unwritten_dst (by kernel_rfl))
              exact wp_move' rfl (After2.mk _ rfl hJ (fun _ _ _ h => h) h)
            · intro n a wr D hn hJ hdn hpr hnd ho hp
              have h1 := hp ⟨1, .data⟩ (by simp) _ 34 rfl rfl rfl
              have h2 := hp ⟨2, .data⟩ (by simp) _ 35 rfl rfl rfl
              have h1 : a.tmps.getD 34 undef = .slice (some ⟨b, off, none⟩) len cap := h1
              have h2 : a.tmps.getD 35 undef = .int .i64 k := h2
              rw [Array.getD_eq_getD_getElem?] at h1 h2
              have hsl := HST.out wr
              unfold Oper.wp
              simp [go_sem, h1, h2, hsl]
              exact After2.mk _ rfl hJ (fun _ _ _ h => h) (hpartT wr hJ)
            · intro n a wr D hn hJ hdn hpr hnd ho hp
              obtain ⟨g, hv, hg, hh⟩ := hp ⟨0, .data⟩ (by simp) _ 33 rfl rfl rfl
              obtain ⟨pb, po, pc, hx, hpb, hpc⟩ := hp ⟨3, .data⟩ (by simp) _ 36 rfl rfl rfl
              have hown : wr.ownsRow w.heap.size 9 1 (.slice (some ⟨g, 0, none⟩) 0 0) 0 ([] : List Value) := ⟨by simp, .inr ⟨g, 0, #[], rfl, hg, hh, Nat.le_refl _, by unfold maxLen; omega, by simp, by simp⟩⟩
              refine wp_append_cells (.tmp 33) (.tmp 36) 83 9 rfl w.heap.size (.string ⟨#[]⟩) 16 Try.info_str Try.underlying83 rfl _ 0 [] hv hown pb po _ pc _ hx rfl hpc (one_strs _) (by rw [hlT]; omega) (by decide) hJ.size (fun v' w' h2 h3 => ?_)
              have h3' : wr.grownBy w' (some g) := h3
              refine After2.mk _ rfl (hJ.grown h3' hJ.size (by intro q hq; injection hq with hq; omega)) (fun j u hj h => ?_) (by simpa [TypedB, TyB.has, insTys] using h2)
              obtain ⟨hDj, hj⟩ := hj
              have g4 : ¬ D 4 := hnd
              have g7 : ¬ D 7 := fun h => g4 (hdn 7 _ h rfl ⟨4, .data⟩ (by simp) rfl)
              have g11 : ¬ D 11 := fun h => g7 (hdn 11 _ h rfl ⟨7, .data⟩ (by simp) rfl)
              have g12 : ¬ D 12 := fun h => g11 (hdn 12 _ h rfl ⟨11, .data⟩ (by simp) rfl)
              refine TyB.first h3' hg hJ.size hh _ _ ?_ h
              match j, hDj, hj with
              | 0, hd, hj => exact (not_needed [4] (by kernel_rfl) ⟨hd, hj⟩ (by simp) (by simp)).elim
              | 4, hd, _ => exact absurd hd g4
              | 7, hd, _ => exact absurd hd g7
              | 11, hd, _ => exact absurd hd g11
              | 12, hd, _ => exact absurd hd g12
              | 1, _, _ | 2, _, _ | 3, _, _ | 5, _, _ | 6, _, _ | 8, _, _ | 9, _, _ | 10, _, _ => trivial
              | j + 13, _, _ => trivial
            · intro n a wr D hn hJ hdn hpr hnd ho hp
              have h := ho 1 (unwritten_dst (by kernel_rfl))
              exact wp_move' rfl (After2.mk _ rfl hJ (fun _ _ _ h => h) h)
            · intro n a wr D hn hJ hdn hpr hnd ho hp
              have h := hp ⟨5, .data⟩ (by simp) _ 38 rfl rfl rfl
              have h : a.tmps.getD 38 undef = .string s := h
              rw [Array.getD_eq_getD_getElem?] at h
              unfold Oper.wp
              simp [go_sem, h]
              exact After2.mk _ rfl (hJ.alloc hJ.size _) (fun j u _ h => TyB.alloc hJ.size _ _ _ h) ⟨wr.heap.size, rfl, hJ.size, Has.new _ _ _⟩
            · intro n a wr D hn hJ hdn hpr hnd ho hp
              have hrow := hp ⟨4, .data⟩ (by simp) _ 37 rfl rfl rfl
              obtain ⟨q, hx, hq, hh⟩ := hp ⟨6, .data⟩ (by simp) _ 39 rfl rfl rfl
              have hr0 : wr.ownsRow w.heap.size 9 1 (a.tmps.getD 37 undef) _ _ := hrow
              refine wp_append_cells (.tmp 37) (.tmp 39) 83 9 rfl w.heap.size (.string ⟨#[]⟩) 16 Try.info_str Try.underlying83 rfl _ _ _ rfl hr0 q 0 1 1 [.string s] hx rfl (one_cell hh) (one_strs' s) (by simp; omega) (by decide) hJ.size (fun v' w' h2 h3 => ?_)
              have hrb : ∀ g, (a.tmps.getD 37 undef).ownBlock = some g → w.heap.size ≤ g := fun g hg => (hr0.lt g hg).1
              refine After2.mk _ rfl (hJ.grown h3 hJ.size hrb) (fun j u hj h => ?_) (by simpa [TypedB, TyB.has, insTys] using h2)
              obtain ⟨hDj, hj⟩ := hj
              have g7 : ¬ D 7 := hnd
              have g11 : ¬ D 11 := fun h => g7 (hdn 11 _ h rfl ⟨7, .data⟩ (by simp) rfl)
              have g12 : ¬ D 12 := fun h => g11 (hdn 12 _ h rfl ⟨11, .data⟩ (by simp) rfl)
              have d4 : D 4 := hpr ⟨4, .data⟩ (by simp) rfl
              refine TyB.next h3 hrb hJ.size _ _ ?_ h
              match j, hDj, hj with
              | 0, hd, hj => exact (not_needed [4] (by kernel_rfl) ⟨hd, hj⟩ (by simp [d4]) (by simp)).elim
              | 4, hd, hj => exact (not_needed [7] (by kernel_rfl) ⟨hd, hj⟩ (by simp) (by simp)).elim
              | 6, hd, hj => exact (not_needed [7] (by kernel_rfl) ⟨hd, hj⟩ (by simp) (by simp)).elim
              | 7, hd, _ => exact absurd hd g7
              | 11, hd, _ => exact absurd hd g11
              | 12, hd, _ => exact absurd hd g12
              | 1, _, _ | 2, _, _ | 3, _, _ | 5, _, _ | 8, _, _ | 9, _, _ | 10, _, _ => trivial
              | j + 13, _, _ => trivial
            · intro n a wr D hn hJ hdn hpr hnd ho hp
              have h := ho 0 (unwritten_dst (by kernel_rfl))
              exact wp_move' rfl (After2.mk _ rfl hJ (fun _ _ _ h => h) h)
            · intro n a wr D hn hJ hdn hpr hnd ho hp
              have h := ho 5 (unwritten_dst (by kernel_rfl))
              exact wp_move' rfl (After2.mk _ rfl hJ (fun _ _ _ h => h) h)
            · intro n a wr D hn hJ hdn hpr hnd ho hp
              have h1 := hp ⟨8, .data⟩ (by simp) _ 41 rfl rfl rfl
              have h2 := hp ⟨9, .data⟩ (by simp) _ 42 rfl rfl rfl
              have h1 : a.tmps.getD 41 undef = .slice (some ⟨b, off, none⟩) len cap := h1
              have h2 : a.tmps.getD 42 undef = .int .i64 k := h2
              rw [Array.getD_eq_getD_getElem?] at h1 h2
              have hsl := HSD.out wr
              unfold Oper.wp
              simp [go_sem, h1, h2, hsl]
              exact After2.mk _ rfl hJ (fun _ _ _ h => h) (hpartD wr hJ)
            · intro n a wr D hn hJ hdn hpr hnd ho hp
              have hrow := hp ⟨7, .data⟩ (by simp) _ 40 rfl rfl rfl
              obtain ⟨pb, po, pc, hx, hpb, hpc⟩ := hp ⟨10, .data⟩ (by simp) _ 43 rfl rfl rfl
              have hr0 : wr.ownsRow w.heap.size 9 1 (a.tmps.getD 40 undef) _ _ := hrow
              refine wp_append_cells (.tmp 40) (.tmp 43) 83 9 rfl w.heap.size (.string ⟨#[]⟩) 16 Try.info_str Try.underlying83 rfl _ _ _ rfl hr0 pb po _ pc _ hx rfl hpc (one_strs _) (by simp only [List.length_append, hlT, hlD, List.length_singleton]; omega) (by decide) hJ.size (fun v' w' h2 h3 => ?_)
              have hrb : ∀ g, (a.tmps.getD 40 undef).ownBlock = some g → w.heap.size ≤ g := fun g hg => (hr0.lt g hg).1
              refine After2.mk _ rfl (hJ.grown h3 hJ.size hrb) (fun j u hj h => ?_) (by rw [← List.length_append] at h2; exact h2)
              obtain ⟨hDj, hj⟩ := hj
              have g11 : ¬ D 11 := hnd
              have g12 : ¬ D 12 := fun h => g11 (hdn 12 _ h rfl ⟨11, .data⟩ (by simp) rfl)
              have d7 : D 7 := hpr ⟨7, .data⟩ (by simp) rfl
              have d4 : D 4 := hdn 7 _ d7 rfl ⟨4, .data⟩ (by simp) rfl
              refine TyB.next h3 hrb hJ.size _ _ ?_ h
              match j, hDj, hj with
              | 0, hd, hj => exact (not_needed [4] (by kernel_rfl) ⟨hd, hj⟩ (by simp [d4]) (by simp)).elim
              | 4, hd, hj => exact (not_needed [7] (by kernel_rfl) ⟨hd, hj⟩ (by simp [d7]) (by simp)).elim
              | 6, hd, hj => exact (not_needed [7] (by kernel_rfl) ⟨hd, hj⟩ (by simp [d7]) (by simp)).elim
              | 7, hd, hj => exact (not_needed [11] (by kernel_rfl) ⟨hd, hj⟩ (by simp) (by simp)).elim
              | 11, hd, _ => exact absurd hd g11
              | 12, hd, _ => exact absurd hd g12
              | 1, _, _ | 2, _, _ | 3, _, _ | 5, _, _ | 8, _, _ | 9, _, _ | 10, _, _ => trivial
              | j + 13, _, _ => trivial
            · intro n a wr D hn hJ hdn hpr hnd ho hp
              have h := hp ⟨11, .data⟩ (by simp) _ 44 rfl rfl rfl
              exact wp_assign' rfl (After2.mk _ rfl hJ (fun _ _ _ h => h) h)
          · intro a' w' hgo
            have hrow := hgo.done 12 _ 4 rfl rfl (.inl (by kernel_rfl)) rfl
            have hd := hgo.defers
            have hsz := hgo.size
            have hbw := hgo.world
            obtain ⟨t, d⟩ := a'
            have hd' : d = [] := hd
            have hrow : w'.ownsRow w.heap.size 9 1 (t.getD 4 undef) _ _ := hrow
            have hne : 0 < (insertS L s).length := by rw [HI.out, List.length_append, List.length_cons]; omega
            have hfin : Hid (Inserted w L s (.returned (t.getD 4 undef)) w') := by
              have hl : (insertS L s).map Value.string = (L.take k).map Value.string ++ [.string s] ++ (L.drop k).map Value.string := by rw [HI.out]; simp
              rw [← hl] at hrow
              rcases hrow.2 with ⟨_, h0⟩ | ⟨g, c, cur, hv, hg, hh, hc, hcm, _, hx⟩
              · rw [List.length_map] at h0; omega
              · have hg' := Has.lt (t := 9) (cs := cur) hh
                refine ⟨g, 0, c, ?_, ?_, hcm, hg', fun i u hi => ?_, hbw⟩
                · rw [hv]; simp
                · rw [List.length_map] at hc; exact hc
                · rw [Nat.zero_add, Has.cell (t := 9) (cs := cur) hh i, ← Array.getElem?_toList]
                  have hil : i < ((insertS L s).map Value.string).length := by
                    rcases Nat.lt_or_ge i ((insertS L s).map Value.string).length with h1 | h1
                    · exact h1
                    · rw [List.getElem?_eq_none h1] at hi; cases hi
                  have e : (cur.toList.take (((insertS L s).map Value.string).length * 1))[i]? = cur.toList[i]? := by rw [List.getElem?_take, if_pos (by omega)]
                  rw [← e, hx]; exact hi
            have ht45 := arr_list t 45 hsz
            obtain ⟨x4, hx4⟩ : ∃ x4, t.getD 4 undef = x4 := ⟨_, rfl⟩
            have hlit : t = #[t.getD 0 undef, t.getD 1 undef, t.getD 2 undef, t.getD 3 undef, t.getD 4 undef, t.getD 5 undef, t.getD 6 undef, t.getD 7 undef, t.getD 8 undef, t.getD 9 undef, t.getD 10 undef, t.getD 11 undef, t.getD 12 undef, t.getD 13 undef, t.getD 14 undef, t.getD 15 undef, t.getD 16 undef, t.getD 17 undef, t.getD 18 undef, t.getD 19 undef, t.getD 20 undef, t.getD 21 undef, t.getD 22 undef, t.getD 23 undef, t.getD 24 undef, t.getD 25 undef, t.getD 26 undef, t.getD 27 undef, t.getD 28 undef, t.getD 29 undef, t.getD 30 undef, t.getD 31 undef, t.getD 32 undef, t.getD 33 undef, t.getD 34 undef, t.getD 35 undef, t.getD 36 undef, t.getD 37 undef, t.getD 38 undef, t.getD 39 undef, t.getD 40 undef, t.getD 41 undef, t.getD 42 undef, t.getD 43 undef, t.getD 44 undef] := ht45.trans (by rfl)
            rw [hx4] at hfin hlit
            have HT := hidden hlit
            clear hrow hd hbw hgo ht45 hlit hx4 hsz
            subst hd'
            rw [HT.out]
            go_wp2
            go_ret
            exact hfin.out
      · have HN : Hid (∀ j y, j < k + 1 → L[j]? = some y → ltS y s = true) := fun j y hj hy => by
          rcases Nat.lt_or_ge j k with h1 | h1
          · exact hbef.out j y h1 hy
          · have : j = k := by omega
            subst this
            rw [HX.out] at hy; injection hy with hy; subst hy; exact hq
        have hq' : Op.bytesLess x.toList s.toList = true := hq
        clear HX hbef hq
        go_wp2
        go_round
        case rel => exact ⟨k + 1, by omega, by go_num, HN⟩
        case measure => simp [intOf]; omega
    · have hkl : k = len := by omega
      have hkL : ∀ y, L[k]? = some y → ltS y s = false := fun y hy => by
        rw [List.getElem?_eq_none (by rw [← HL.out]; omega)] at hy; cases hy
      have hp : posS L s = k := posS_at L s k (by rw [← HL.out]; exact hk) hbef.out hkL
      have HI : Hid (insertS L s = L.take k ++ s :: L.drop k) := by
        show _ = _; unfold insertS; rw [hp, if_neg (by rw [List.getElem?_eq_none (by rw [← HL.out]; omega)]; simp)]
      have hi : ¬ (k : Int) < (len : Int) := by omega
      clear hbef hp hkL hkl
      go_wp2
      have hlT : ((L.take k).map Value.string).length = k := by rw [List.length_map, List.length_take, ← HL.out]; omega
      have hlD : ((L.drop k).map Value.string).length = len - k := by rw [List.length_map, List.length_drop, ← HL.out]
      have ht : Try.prog.underlying 83 = some (.slice (Try.prog.elem 83)) := by kernel_rfl
      have hz : ∀ W, (sizeOf (Try.prog.elem 83)).run Try.prog W = .ok 1 W := fun W => by kernel_rfl
      have hslT : ∀ W : World, (Instr.slice 83 (.slice (some ⟨b, off, none⟩) len cap) none (some (.int .i64 (k : Int))) none).run Try.prog W = .ok (.slice (some ⟨b, off, none⟩) k cap) W := fun W => by
        rw [run_slice_h W 83 (some ⟨b, off, none⟩) len cap ht .i64 (k : Int) (by omega) (by omega), hz]
        simp [Result.andThen, sliced, Addr.add]
      obtain ⟨od, hod, hodd⟩ : ∃ od, od = (if cap = k then off else off + k) ∧ ((L.drop k).map Value.string ≠ [] → od = off + k) := ⟨_, rfl, fun h => by
        rw [if_neg]; intro e; apply h; apply List.eq_nil_of_length_eq_zero; rw [hlD]; omega⟩
      have hslD : ∀ W : World, (Instr.slice 83 (.slice (some ⟨b, off, none⟩) len cap) (some (.int .i64 (k : Int))) none none).run Try.prog W = .ok (.slice (some ⟨b, od, none⟩) (len - k) (cap - k)) W := fun W => by
        rw [run_slice_l W 83 (some ⟨b, off, none⟩) len cap ht .i64 (k : Int) (by omega) (by omega), hz, hod]
        by_cases hck : cap = k <;> simp [Result.andThen, sliced, hck, Addr.add] <;> (intro h; omega)
      have hpartT : ∀ W, Below w.heap.size w W → TypedB w.heap.size 9 (insTys L (.slice (some ⟨b, off, none⟩) len cap) k s) 3 W (.slice (some ⟨b, off, none⟩) k cap) := fun W hW => by
        refine ⟨b, off, cap, by rw [hlT], hb, fun i u hi => (hW.cell hb).trans (HC.out i u ?_)⟩
        rw [List.map_take, List.getElem?_take] at hi
        split at hi
        · exact hi
        · cases hi
      have hpartD : ∀ W, Below w.heap.size w W → TypedB w.heap.size 9 (insTys L (.slice (some ⟨b, off, none⟩) len cap) k s) 10 W (.slice (some ⟨b, od, none⟩) (len - k) (cap - k)) := fun W hW => by
        refine ⟨b, od, cap - k, by rw [hlD], hb, fun i u hi => (hW.cell hb).trans ?_⟩
        rw [hodd (by intro h; rw [h] at hi; simp at hi), Nat.add_assoc]
        apply HC.out (k + i) u
        rw [List.map_drop, List.getElem?_drop] at hi
        exact hi
      have HST := hidden hslT
      have HSD := hidden hslD
      clear hslT hslD
      refine wp_region_typed2_lit (by kernel_rfl) (fun _ W => Below w.heap.size w W) (TypedB w.heap.size 9 (insTys L (.slice (some ⟨b, off, none⟩) len cap) k s)) (by kernel_rfl) (fun _ _ h => h) (Below.refl _ _).drew ?_ ?_
      · refine ⟨?_, ?_, ?_, ?_, ?_, ?_, ?_, ?_, ?_, ?_, ?_, ?_, ?_, trivial⟩
        · intro n a wr D hn hJ hdn hpr hnd ho hp
          unfold Oper.wp
          simp [go_sem]
          exact After2.mk _ rfl (hJ.alloc hJ.size _) (fun j u _ h => TyB.alloc hJ.size _ _ _ h) ⟨wr.heap.size, rfl, hJ.size, Has.new _ _ _⟩
        · intro n a wr D hn hJ hdn hpr hnd ho hp
          have h := ho 0 (unwritten_dst (by kernel_rfl))
          exact wp_move' rfl (After2.mk _ rfl hJ (fun _ _ _ h => h) h)
        · intro n a wr D hn hJ hdn hpr hnd ho hp
          have h := ho 5 (unwritten_dst (by kernel_rfl))
          exact wp_move' rfl (After2.mk _ rfl hJ (fun _ _ _ h => h) h)
        · intro n a wr D hn hJ hdn hpr hnd ho hp
          have h1 := hp ⟨1, .data⟩ (by simp) _ 34 rfl rfl rfl
          have h2 := hp ⟨2, .data⟩ (by simp) _ 35 rfl rfl rfl
          have h1 : a.tmps.getD 34 undef = .slice (some ⟨b, off, none⟩) len cap := h1
          have h2 : a.tmps.getD 35 undef = .int .i64 k := h2
          rw [Array.getD_eq_getD_getElem?] at h1 h2
          have hsl := HST.out wr
          unfold Oper.wp
          simp [go_sem, h1, h2, hsl]
          exact After2.mk _ rfl hJ (fun _ _ _ h => h) (hpartT wr hJ)
        · intro n a wr D hn hJ hdn hpr hnd ho hp
          obtain ⟨g, hv, hg, hh⟩ := hp ⟨0, .data⟩ (by simp) _ 33 rfl rfl rfl
          obtain ⟨pb, po, pc, hx, hpb, hpc⟩ := hp ⟨3, .data⟩ (by simp) _ 36 rfl rfl rfl
          have hown : wr.ownsRow w.heap.size 9 1 (.slice (some ⟨g, 0, none⟩) 0 0) 0 ([] : List Value) := ⟨by simp, .inr ⟨g, 0, #[], rfl, hg, hh, Nat.le_refl _, by unfold maxLen; omega, by simp, by simp⟩⟩
          refine wp_append_cells (.tmp 33) (.tmp 36) 83 9 rfl w.heap.size (.string ⟨#[]⟩) 16 Try.info_str Try.underlying83 rfl _ 0 [] hv hown pb po _ pc _ hx rfl hpc (one_strs _) (by rw [hlT]; omega) (by decide) hJ.size (fun v' w' h2 h3 => ?_)
          have h3' : wr.grownBy w' (some g) := h3
          refine After2.mk _ rfl (hJ.grown h3' hJ.size (by intro q hq; injection hq with hq; omega)) (fun j u hj h => ?_) (by simpa [TypedB, TyB.has, insTys] using h2)
          obtain ⟨hDj, hj⟩ := hj
          have g4 : ¬ D 4 := hnd
          have g7 : ¬ D 7 := fun h => g4 (hdn 7 _ h rfl ⟨4, .data⟩ (by simp) rfl)
          have g11 : ¬ D 11 := fun h => g7 (hdn 11 _ h rfl ⟨7, .data⟩ (by simp) rfl)
          have g12 : ¬ D 12 := fun h => g11 (hdn 12 _ h rfl ⟨11, .data⟩ (by simp) rfl)
          refine TyB.first h3' hg hJ.size hh _ _ ?_ h
          match j, hDj, hj with
          | 0, hd, hj => exact (not_needed [4] (by kernel_rfl) ⟨hd, hj⟩ (by simp) (by simp)).elim
          | 4, hd, _ => exact absurd hd g4
          | 7, hd, _ => exact absurd hd g7
          | 11, hd, _ => exact absurd hd g11
          | 12, hd, _ => exact absurd hd g12
          | 1, _, _ | 2, _, _ | 3, _, _ | 5, _, _ | 6, _, _ | 8, _, _ | 9, _, _ | 10, _, _ => trivial
          | j + 13, _, _ => trivial
        · intro n a wr D hn hJ hdn hpr hnd ho hp
          have h := ho 1 (unwritten_dst (by kernel_rfl))
          exact wp_move' rfl (After2.mk _ rfl hJ (fun _ _ _ h => h) h)
        · intro n a wr D hn hJ hdn hpr hnd ho hp
          have h := hp ⟨5, .data⟩ (by simp) _ 38 rfl rfl rfl
          have h : a.tmps.getD 38 undef = .string s := h
          rw [Array.getD_eq_getD_getElem?] at h
          unfold Oper.wp
          simp [go_sem, h]
          exact After2.mk _ rfl (hJ.alloc hJ.size _) (fun j u _ h => TyB.alloc hJ.size _ _ _ h) ⟨wr.heap.size, rfl, hJ.size, Has.new _ _ _⟩
        · intro n a wr D hn hJ hdn hpr hnd ho hp
          have hrow := hp ⟨4, .data⟩ (by simp) _ 37 rfl rfl rfl
          obtain ⟨q, hx, hq, hh⟩ := hp ⟨6, .data⟩ (by simp) _ 39 rfl rfl rfl
          have hr0 : wr.ownsRow w.heap.size 9 1 (a.tmps.getD 37 undef) _ _ := hrow
          refine wp_append_cells (.tmp 37) (.tmp 39) 83 9 rfl w.heap.size (.string ⟨#[]⟩) 16 Try.info_str Try.underlying83 rfl _ _ _ rfl hr0 q 0 1 1 [.string s] hx rfl (one_cell hh) (one_strs' s) (by simp; omega) (by decide) hJ.size (fun v' w' h2 h3 => ?_)
          have hrb : ∀ g, (a.tmps.getD 37 undef).ownBlock = some g → w.heap.size ≤ g := fun g hg => (hr0.lt g hg).1
          refine After2.mk _ rfl (hJ.grown h3 hJ.size hrb) (fun j u hj h => ?_) (by simpa [TypedB, TyB.has, insTys] using h2)
          obtain ⟨hDj, hj⟩ := hj
          have g7 : ¬ D 7 := hnd
          have g11 : ¬ D 11 := fun h => g7 (hdn 11 _ h rfl ⟨7, .data⟩ (by simp) rfl)
          have g12 : ¬ D 12 := fun h => g11 (hdn 12 _ h rfl ⟨11, .data⟩ (by simp) rfl)
          have d4 : D 4 := hpr ⟨4, .data⟩ (by simp) rfl
          refine TyB.next h3 hrb hJ.size _ _ ?_ h
          match j, hDj, hj with
          | 0, hd, hj => exact (not_needed [4] (by kernel_rfl) ⟨hd, hj⟩ (by simp [d4]) (by simp)).elim
          | 4, hd, hj => exact (not_needed [7] (by kernel_rfl) ⟨hd, hj⟩ (by simp) (by simp)).elim
          | 6, hd, hj => exact (not_needed [7] (by kernel_rfl) ⟨hd, hj⟩ (by simp) (by simp)).elim
          | 7, hd, _ => exact absurd hd g7
          | 11, hd, _ => exact absurd hd g11
          | 12, hd, _ => exact absurd hd g12
          | 1, _, _ | 2, _, _ | 3, _, _ | 5, _, _ | 8, _, _ | 9, _, _ | 10, _, _ => trivial
          | j + 13, _, _ => trivial
        · intro n a wr D hn hJ hdn hpr hnd ho hp
          have h := ho 0 (unwritten_dst (by kernel_rfl))
          exact wp_move' rfl (After2.mk _ rfl hJ (fun _ _ _ h => h) h)
        · intro n a wr D hn hJ hdn hpr hnd ho hp
          have h := ho 5 (unwritten_dst (by kernel_rfl))
          exact wp_move' rfl (After2.mk _ rfl hJ (fun _ _ _ h => h) h)
        · intro n a wr D hn hJ hdn hpr hnd ho hp
          have h1 := hp ⟨8, .data⟩ (by simp) _ 41 rfl rfl rfl
          have h2 := hp ⟨9, .data⟩ (by simp) _ 42 rfl rfl rfl
          have h1 : a.tmps.getD 41 undef = .slice (some ⟨b, off, none⟩) len cap := h1
          have h2 : a.tmps.getD 42 undef = .int .i64 k := h2
          rw [Array.getD_eq_getD_getElem?] at h1 h2
          have hsl := HSD.out wr
          unfold Oper.wp
          simp [go_sem, h1, h2, hsl]
          exact After2.mk _ rfl hJ (fun _ _ _ h => h) (hpartD wr hJ)
        · intro n a wr D hn hJ hdn hpr hnd ho hp
          have hrow := hp ⟨7, .data⟩ (by simp) _ 40 rfl rfl rfl
          obtain ⟨pb, po, pc, hx, hpb, hpc⟩ := hp ⟨10, .data⟩ (by simp) _ 43 rfl rfl rfl
          have hr0 : wr.ownsRow w.heap.size 9 1 (a.tmps.getD 40 undef) _ _ := hrow
          refine wp_append_cells (.tmp 40) (.tmp 43) 83 9 rfl w.heap.size (.string ⟨#[]⟩) 16 Try.info_str Try.underlying83 rfl _ _ _ rfl hr0 pb po _ pc _ hx rfl hpc (one_strs _) (by simp only [List.length_append, hlT, hlD, List.length_singleton]; omega) (by decide) hJ.size (fun v' w' h2 h3 => ?_)
          have hrb : ∀ g, (a.tmps.getD 40 undef).ownBlock = some g → w.heap.size ≤ g := fun g hg => (hr0.lt g hg).1
          refine After2.mk _ rfl (hJ.grown h3 hJ.size hrb) (fun j u hj h => ?_) (by rw [← List.length_append] at h2; exact h2)
          obtain ⟨hDj, hj⟩ := hj
          have g11 : ¬ D 11 := hnd
          have g12 : ¬ D 12 := fun h => g11 (hdn 12 _ h rfl ⟨11, .data⟩ (by simp) rfl)
          have d7 : D 7 := hpr ⟨7, .data⟩ (by simp) rfl
          have d4 : D 4 := hdn 7 _ d7 rfl ⟨4, .data⟩ (by simp) rfl
          refine TyB.next h3 hrb hJ.size _ _ ?_ h
          match j, hDj, hj with
          | 0, hd, hj => exact (not_needed [4] (by kernel_rfl) ⟨hd, hj⟩ (by simp [d4]) (by simp)).elim
          | 4, hd, hj => exact (not_needed [7] (by kernel_rfl) ⟨hd, hj⟩ (by simp [d7]) (by simp)).elim
          | 6, hd, hj => exact (not_needed [7] (by kernel_rfl) ⟨hd, hj⟩ (by simp [d7]) (by simp)).elim
          | 7, hd, hj => exact (not_needed [11] (by kernel_rfl) ⟨hd, hj⟩ (by simp) (by simp)).elim
          | 11, hd, _ => exact absurd hd g11
          | 12, hd, _ => exact absurd hd g12
          | 1, _, _ | 2, _, _ | 3, _, _ | 5, _, _ | 8, _, _ | 9, _, _ | 10, _, _ => trivial
          | j + 13, _, _ => trivial
        · intro n a wr D hn hJ hdn hpr hnd ho hp
          have h := hp ⟨11, .data⟩ (by simp) _ 44 rfl rfl rfl
          exact wp_assign' rfl (After2.mk _ rfl hJ (fun _ _ _ h => h) h)
      · intro a' w' hgo
        have hrow := hgo.done 12 _ 4 rfl rfl (.inl (by kernel_rfl)) rfl
        have hd := hgo.defers
        have hsz := hgo.size
        have hbw := hgo.world
        obtain ⟨t, d⟩ := a'
        have hd' : d = [] := hd
        have hrow : w'.ownsRow w.heap.size 9 1 (t.getD 4 undef) _ _ := hrow
        have hne : 0 < (insertS L s).length := by rw [HI.out, List.length_append, List.length_cons]; omega
        have hfin : Hid (Inserted w L s (.returned (t.getD 4 undef)) w') := by
          have hl : (insertS L s).map Value.string = (L.take k).map Value.string ++ [.string s] ++ (L.drop k).map Value.string := by rw [HI.out]; simp
          rw [← hl] at hrow
          rcases hrow.2 with ⟨_, h0⟩ | ⟨g, c, cur, hv, hg, hh, hc, hcm, _, hx⟩
          · rw [List.length_map] at h0; omega
          · have hg' := Has.lt (t := 9) (cs := cur) hh
            refine ⟨g, 0, c, ?_, ?_, hcm, hg', fun i u hi => ?_, hbw⟩
            · rw [hv]; simp
            · rw [List.length_map] at hc; exact hc
            · rw [Nat.zero_add, Has.cell (t := 9) (cs := cur) hh i, ← Array.getElem?_toList]
              have hil : i < ((insertS L s).map Value.string).length := by
                rcases Nat.lt_or_ge i ((insertS L s).map Value.string).length with h1 | h1
                · exact h1
                · rw [List.getElem?_eq_none h1] at hi; cases hi
              have e : (cur.toList.take (((insertS L s).map Value.string).length * 1))[i]? = cur.toList[i]? := by rw [List.getElem?_take, if_pos (by omega)]
              rw [← e, hx]; exact hi
        have ht45 := arr_list t 45 hsz
        obtain ⟨x4, hx4⟩ : ∃ x4, t.getD 4 undef = x4 := ⟨_, rfl⟩
        have hlit : t = #[t.getD 0 undef, t.getD 1 undef, t.getD 2 undef, t.getD 3 undef, t.getD 4 undef, t.getD 5 undef, t.getD 6 undef, t.getD 7 undef, t.getD 8 undef, t.getD 9 undef, t.getD 10 undef, t.getD 11 undef, t.getD 12 undef, t.getD 13 undef, t.getD 14 undef, t.getD 15 undef, t.getD 16 undef, t.getD 17 undef, t.getD 18 undef, t.getD 19 undef, t.getD 20 undef, t.getD 21 undef, t.getD 22 undef, t.getD 23 undef, t.getD 24 undef, t.getD 25 undef, t.getD 26 undef, t.getD 27 undef, t.getD 28 undef, t.getD 29 undef, t.getD 30 undef, t.getD 31 undef, t.getD 32 undef, t.getD 33 undef, t.getD 34 undef, t.getD 35 undef, t.getD 36 undef, t.getD 37 undef, t.getD 38 undef, t.getD 39 undef, t.getD 40 undef, t.getD 41 undef, t.getD 42 undef, t.getD 43 undef, t.getD 44 undef] := ht45.trans (by rfl)
        rw [hx4] at hfin hlit
        have HT := hidden hlit
        clear hrow hd hbw hgo ht45 hlit hx4 hsz
        subst hd'
        rw [HT.out]
        go_wp2
        go_ret
        exact hfin.out

end Go.Proofs.Ytiocchmlmcoieaa

import Derived.IntWalk
import Derived.Deep.CutBlock
import Derived.Test.YtpfombelhajmlaaGreatDoorDumpN
import Derived.Test.YtpfombelhajmlaaGreatDoorSbI
import Derived.Test.YtpfombelhajmlaaGreatDoorShelf
import Derived.Test.YtpfombelhajmlaaGreatDoorTabsD
import Derived.Test.YtpfombelhajmlaaGreatDoorHexI
import Derived.Test.YtpfombelhajmlaaGreatDoorObI
import Derived.Test.YtpfombelhajmlaaGreatDoorLawD3
namespace Go.Proofs.YtpfombelhajmlaaGreatDoor
open Go.RowKit
structure DB (W : World) (B p : Nat) (S : List ByteArray) (L : List Int) (cs : Array Value) : Prop where
  sb : Sb W B p 1 49 cs L
  size : cs.size = 3
  row : ∃ v, cs[0]? = some v ∧ W.ownsRow B 9 1 v S.length (S.map Value.string)
  tabs : Tabs W
  low : tabTop ≤ B
structure DBW (W : World) (B p : Nat) (S' : List ByteArray) (L' : List Int) (W' : World) : Prop where
  db : ∃ cs, DB W' B p S' L' cs
  below : Below B W W'
  kept : ∀ k T' c, T' ≠ 5 → T' ≠ 9 → k ≠ p → Has W k T' c → Has W' k T' c
theorem DBW.trans {W W1 W2 : World} {B p : Nat} {S1 S2 : List ByteArray} {L1 L2 : List Int} (h : DBW W B p S1 L1 W1) (k : DBW W1 B p S2 L2 W2) : DBW W B p S2 L2 W2 :=
  ⟨k.db, h.below.trans k.below, fun q T' c h1 h2 h3 h4 => k.kept q T' c h1 h2 h3 (h.kept q T' c h1 h2 h3 h4)⟩
theorem Sb.only {W W' : World} {B b o : Nat} {T : TypeId} {cs : Array Value} {L : List Int} (h : Sb W B b o T cs L) (hb : Below W.heap.size W W') : Sb W' B b o T cs L := by
  obtain ⟨u, h1, h2, h3⟩ := h.buf
  exact ⟨h.has.below hb h.has.lt, h.base, h.addr, ⟨u, h1, h2.only hb, h3⟩, h.lies, h.ne, h.wf⟩
theorem own_same {W W' : World} {B : Nat} {T : TypeId} {v : Value} {n : Nat} {xs : List Value} (h : W.ownsRow B T 1 v n xs) (hk : ∀ k c, Has W k T c → Has W' k T c) : W'.ownsRow B T 1 v n xs := by
  refine ⟨h.1, ?_⟩
  rcases h.2 with h0 | ⟨g, cap, cur, e, h1, h2, h3⟩
  · exact .inl h0
  · exact .inr ⟨g, cap, cur, e, h1, hk g cur h2, h3⟩
theorem DB.only {W W' : World} {B p : Nat} {S : List ByteArray} {L : List Int} {cs : Array Value} (h : DB W B p S L cs) (hb : Below W.heap.size W W') : DB W' B p S L cs := by
  obtain ⟨v, h1, h2⟩ := h.row
  exact ⟨h.sb.only hb, h.size, ⟨v, h1, own_same h2 fun k c hh => hh.below hb hh.lt⟩, h.tabs.below hb h.tabs.lt, h.low⟩
theorem DBW.only {W W1 : World} {B p : Nat} {S : List ByteArray} {L : List Int} {cs : Array Value} (h : DB W B p S L cs) (hb : Below W.heap.size W W1) : DBW W B p S L W1 :=
  ⟨⟨cs, h.only hb⟩, hb.mono h.sb.size, fun _ _ _ _ _ _ hh => hh.below hb hh.lt⟩
theorem DB.line {W W' : World} {B p : Nat} {S : List ByteArray} {L L' : List Int} {cs cs' : Array Value} (h : DB W B p S L cs) (k : SbW W B p 1 49 cs L' W' cs') : DB W' B p S L' cs' := by
  obtain ⟨v, h1, h2⟩ := h.row
  exact ⟨k.sb, k.size.trans h.size, ⟨v, (k.rest 0 (by omega) (by omega)).trans h1, own_same h2 fun q c hh => k.kept q _ c (by decide) (hh.differ h.sb.has (by decide)) hh⟩, h.tabs.below k.below h.low, h.low⟩
theorem DBW.line {W W' : World} {B p : Nat} {S : List ByteArray} {L L' : List Int} {cs cs' : Array Value} (h : DB W B p S L cs) (k : SbW W B p 1 49 cs L' W' cs') : DBW W B p S L' W' :=
  ⟨⟨cs', h.line k⟩, k.below, fun q T' c h1 _ h3 hh => k.kept q T' c h1 h3 hh⟩
set_option maxRecDepth 100000 in
set_option maxHeartbeats 2000000 in
theorem putWords_any (W : World) (B p : Nat) (S : List ByteArray) (L : List Int) (cs0 : Array Value) (h : DB W B p S L cs0) (g n c : Nat) (ws : List ByteArray) (hn : n = ws.length) (hg : Has W g 9 (ws.map Value.string).toArray) (hlen : L.length + lenW ws ≤ 1000000000) (hnb : n ≤ 1000000) :
    Calls Tryz.prog 54 #[.pointer (some ⟨p, 0, none⟩), .slice (some ⟨g, 0, none⟩) n c] W fun e w' => e = .returned (.tuple #[]) ∧ DBW W B p S (joinW L ws) w' := by
  have HD := hidden h
  have HN := hidden hn
  have HG := hidden hg
  have HLEN := hidden hlen
  have HGP : Hid (g ≠ p) := hg.differ h.sb.has (by decide)
  clear h hg hlen hn
  go_enter Tryz.func54, Tryz.ntmps54
  go_wp2_with fail
  go_loopw [8] (fun i wr => ∃ (k : Nat) (cs : Array Value), i = .int .i64 k ∧ k ≤ n ∧ Hid (SbW W B p 1 49 cs0 (joinW L (ws.take k)) wr cs)) (fun i _ => n - (intOf i).toNat)
  case atStart => exact ⟨0, cs0, rfl, Nat.zero_le _, SbW.refl HD.out.sb⟩
  case round =>
    obtain ⟨k, cs, rfl, hk, hs⟩ := hrel
    by_cases hlt : k < n
    · have hi : (k : Int) < (n : Int) := by omega
      have hkl : k < ws.length := by rw [← HN.out]; exact hlt
      obtain ⟨s, hs1⟩ : ∃ s, ws[k]? = some s := ⟨_, List.getElem?_eq_getElem hkl⟩
      have hgr : Has wr g 9 (ws.map Value.string).toArray := hs.out.kept g _ _ (by decide) HGP.out HG.out
      have hc : wr.cell? ⟨g, k, none⟩ = some (.string s) := by rw [hgr.cell k]; simp [hs1]
      have HSN : Hid (joinW L (ws.take (k + 1)) = addW (joinW L (ws.take k)) s) := joinW_snoc hs1 L
      have hb1 := joinW_length (ws.take k) L
      have hb2 := lenW_snoc hs1
      obtain ⟨M, hM⟩ : ∃ M, joinW L (ws.take k) = M := ⟨_, rfl⟩
      rw [hM] at hs HSN hb1
      have hlM : M.length + s.size + 1 ≤ 1000000000 := by have := HLEN.out; omega
      have HLM := hidden hlM
      have HW := hidden (builderLen_any wr B p 1 _ cs M hs.out.sb)
      clear hs1 hgr hb1 hb2 hM hkl hlM
      go_wp2_with fail
      refine HW.out.mono ?_
      rintro e _ ⟨rfl, rfl⟩
      clear HW
      by_cases hM0 : M = []
      · have HE : Hid (joinW L (ws.take (k + 1)) = M ++ numsOf s) := by show _ = _; rw [HSN.out]; unfold addW; rw [if_pos hM0]
        have hl0 : ((M.length : Nat) : Int) = 0 := by rw [hM0]; rfl
        have HWS := hidden (writeString_any wr B p 1 _ cs M hs.out.sb s (by have := HLM.out; omega))
        rw [hl0]
        clear hM0 hl0 HSN
        go_wp2_with fail
        refine HWS.out.mono ?_
        rintro e w2 ⟨⟨v, rfl⟩, cs2, hs2⟩
        have HS2 : Hid (SbW W B p 1 49 cs0 (joinW L (ws.take (k + 1))) w2 cs2) := by show SbW _ _ _ _ _ _ _ _ _; rw [HE.out]; exact hs.out.trans hs2
        clear HWS hs2 hs HE
        go_wp2_with fail
        go_roundw
        case rel => exact ⟨k + 1, cs2, by go_num, by omega, HS2⟩
        case measure => simp [intOf]; omega
      · have HE : Hid (joinW L (ws.take (k + 1)) = M ++ [32] ++ numsOf s) := by show _ = _; rw [HSN.out]; unfold addW; rw [if_neg hM0]
        obtain ⟨m, hm⟩ : ∃ m, M.length = m := ⟨_, rfl⟩
        have hl0 : (0 : Int) < (m : Int) := by rw [← hm]; have := List.length_pos_iff.2 hM0; omega
        have HWB := hidden (writeByte_any wr B p 1 _ cs M hs.out.sb 32 (by omega) (by have := HLM.out; omega))
        rw [hm]
        clear hM0 HSN hm
        go_wp2_with fail
        refine HWB.out.mono ?_
        rintro e w2 ⟨rfl, cs2, hs2⟩
        have HWS := hidden (writeString_any w2 B p 1 _ cs2 (M ++ [32]) hs2.sb s (by have := HLM.out; rw [List.length_append, List.length_singleton]; omega))
        have HS2 := hidden (hs.out.trans hs2)
        clear HWB hs2 hs
        go_wp2_with fail
        refine HWS.out.mono ?_
        rintro e w3 ⟨⟨v, rfl⟩, cs3, hs3⟩
        have HS3 : Hid (SbW W B p 1 49 cs0 (joinW L (ws.take (k + 1))) w3 cs3) := by show SbW _ _ _ _ _ _ _ _ _; rw [HE.out]; exact HS2.out.trans hs3
        clear HWS hs3 HS2 HE
        go_wp2_with fail
        go_roundw
        case rel => exact ⟨k + 1, cs3, by go_num, by omega, HS3⟩
        case measure => simp [intOf]; omega
    · have hi : ¬ (k : Int) < (n : Int) := by omega
      have HF : Hid (DBW W B p S (joinW L ws) wr) := by
        have := DBW.line HD.out hs.out
        rwa [List.take_of_length_le (by rw [← HN.out]; omega)] at this
      clear hs
      go_wp2_with fail
      go_end0
      exact ⟨rfl, HF.out⟩
end Go.Proofs.YtpfombelhajmlaaGreatDoor
namespace Go.Proofs.YtpfombelhajmlaaGreatDoor
open Go.RowKit
theorem itoa_any (W : World) (h : Tabs W) (x : Int) (hx : I64 x) : Calls Tryz.prog 80 #[.int .i64 x] W fun e w' => e = .returned (.string (numT x)) ∧ Below W.heap.size W w' := by
  refine (Tryz.strconv_Itoa x hx.1 hx.2 W h.pow).mono ?_
  rintro e w' ⟨rfl, k, os, rfl⟩
  exact ⟨by rw [itoa_num], grow_below W k os⟩
set_option maxRecDepth 100000 in
set_option maxHeartbeats 2000000 in
theorem putNumbers_any (W : World) (B p : Nat) (S : List ByteArray) (L : List Int) (cs0 : Array Value) (h : DB W B p S L cs0) (g n c : Nat) (ns : List Int) (hn : n = ns.length) (hg : Has W g 3 (ns.map (Value.int .i64)).toArray) (hx : ∀ x ∈ ns, I64 x) (hlen : L.length + 22 * n ≤ 1000000000) (hnb : n ≤ 1000000) :
    Calls Tryz.prog 55 #[.pointer (some ⟨p, 0, none⟩), .slice (some ⟨g, 0, none⟩) n c] W fun e w' => e = .returned (.tuple #[]) ∧ DBW W B p S (joinW L (ns.map numT)) w' := by
  have HD := hidden h
  have HN := hidden hn
  have HG := hidden hg
  have HX := hidden hx
  have HLEN := hidden hlen
  have HGP : Hid (g ≠ p) := hg.differ h.sb.has (by decide)
  have hlw : ∀ k, lenW ((ns.take k).map numT) ≤ 22 * k := by
    intro k
    induction k with
    | zero => simp [lenW]
    | succ k ih =>
      rcases Nat.lt_or_ge k ns.length with h1 | h1
      · rw [List.take_add_one, List.getElem?_eq_getElem h1, List.map_append, lenW_append]
        have := numT_size' (hx _ (List.getElem_mem h1))
        simp only [Option.toList_some, List.map_cons, List.map_nil, lenW]
        omega
      · rw [List.take_of_length_le (by omega)] at ih ⊢
        omega
  have HLW := hidden hlw
  clear h hg hlen hn hx hlw
  go_enter Tryz.func55, Tryz.ntmps55
  go_wp2_with fail
  go_loopw [8] (fun i wr => ∃ k : Nat, i = .int .i64 k ∧ k ≤ n ∧ Hid (DBW W B p S (joinW L ((ns.take k).map numT)) wr)) (fun i _ => n - (intOf i).toNat)
  case atStart => exact ⟨0, rfl, Nat.zero_le _, ⟨⟨cs0, HD.out⟩, Below.refl _ _, fun _ _ _ _ _ _ h => h⟩⟩
  case round =>
    obtain ⟨k, rfl, hk, hs⟩ := hrel
    by_cases hlt : k < n
    · have hi : (k : Int) < (n : Int) := by omega
      have hkl : k < ns.length := by rw [← HN.out]; exact hlt
      obtain ⟨x, hx1⟩ : ∃ x, ns[k]? = some x := ⟨_, List.getElem?_eq_getElem hkl⟩
      have hgr : Has wr g 3 (ns.map (Value.int .i64)).toArray := hs.out.kept g _ _ (by decide) (by decide) HGP.out HG.out
      have hc : wr.cell? ⟨g, k, none⟩ = some (.int .i64 x) := by rw [hgr.cell k]; simp [hx1]
      have hxi : I64 x := HX.out x (List.mem_of_getElem? hx1)
      obtain ⟨cs, hdb⟩ := hs.out.db
      have HIT := hidden (itoa_any wr hdb.tabs x hxi)
      have HDB := hidden hdb
      have HSN : Hid (joinW L ((ns.take (k + 1)).map numT) = joinW (joinW L ((ns.take k).map numT)) [numT x]) := by
        show _ = _
        rw [List.take_add_one, hx1, List.map_append]
        unfold joinW
        rw [List.foldl_append]
        rfl
      have hb1 := joinW_length ((ns.take k).map numT) L
      have hb2 := HLW.out k
      obtain ⟨M, hM⟩ : ∃ M, joinW L ((ns.take k).map numT) = M := ⟨_, rfl⟩
      rw [hM] at hs HSN hb1 HDB
      have hsz := numT_size' hxi
      obtain ⟨tx, htx⟩ : ∃ t, numT x = t := ⟨_, rfl⟩
      rw [htx] at HIT HSN hsz
      have HLM : Hid (M.length + lenW [tx] ≤ 1000000000) := by show _ ≤ _; have := HLEN.out; simp only [lenW]; omega
      clear hx1 hgr hb1 hb2 hM hkl hxi hdb htx hsz
      go_wp2_with fail
      refine HIT.out.mono ?_
      rintro e w2 ⟨rfl, hb⟩
      have HD2 := hidden (HDB.out.only hb)
      have HW2 := hidden (DBW.only HDB.out hb)
      have HD3 := hidden (HD2.out.only ((Below.refl _ _).alloc (Nat.le_refl _) (.cells #[.string tx] 9)))
      have HW3 := hidden (DBW.only HD2.out ((Below.refl _ _).alloc (Nat.le_refl _) (.cells #[.string tx] 9)))
      have HPW := hidden (putWords_any (w2.alloc (.cells #[.string tx] 9)) B p S M cs HD3.out w2.heap.size 1 1 [tx] rfl (Has.new _ _ _) HLM.out (by omega))
      have HWW := hidden (hs.out.trans (HW2.out.trans HW3.out))
      clear hb HIT HDB HD2 HD3 HW2 HW3 hs hc
      go_wp2_with fail
      refine HPW.out.mono ?_
      rintro e w3 ⟨rfl, hw⟩
      have HS3 : Hid (DBW W B p S (joinW L ((ns.take (k + 1)).map numT)) w3) := by show DBW _ _ _ _ _ _; rw [HSN.out]; exact HWW.out.trans hw
      clear HPW hw HWW HSN
      go_wp2_with fail
      go_roundw
      case rel => exact ⟨k + 1, by go_num, by omega, HS3⟩
      case measure => simp [intOf]; omega
    · have hi : ¬ (k : Int) < (n : Int) := by omega
      have HF : Hid (DBW W B p S (joinW L (ns.map numT)) wr) := by
        have := hs.out
        rwa [List.take_of_length_le (by rw [← HN.out]; omega)] at this
      clear hs
      go_wp2_with fail
      go_end0
      exact ⟨rfl, HF.out⟩
structure JE (w0 : World) (B p : Nat) (cs : Array Value) (L : List Int) (v : Value) (N : Nat) (xs : List Value) (line : ByteArray) (k : Nat) (W : World) (vals : Nat → Value) : Prop where
  low : B ≤ W.heap.size
  below : Below B w0 W
  kept : ∀ q T' c, T' ≠ 5 → T' ≠ 9 → q ≠ p → Has w0 q T' c → Has W q T' c
  start : k = 0 → Sb W B p 1 49 cs L
  has : k ≤ 3 → Has W p 49 cs
  text : 1 ≤ k → vals 0 = .string line
  row : k ≤ 2 → W.ownsRow B 9 1 v N xs
  arr : k = 2 → ∃ q, vals 1 = .slice (some ⟨q, 0, none⟩) 1 1 ∧ Has W q 9 #[.string line]
  app : k = 3 → W.ownsRow B 9 1 (vals 2) (N + 1) (xs ++ [.string line])
  fin : k = 4 → ∃ v', Has W p 49 (cs.setIfInBounds 0 v') ∧ W.ownsRow B 9 1 v' (N + 1) (xs ++ [.string line])
theorem own_slice {W : World} {B : Nat} {T : TypeId} {s : Nat} {v : Value} {n : Nat} {xs : List Value} (h : W.ownsRow B T s v n xs) : ∃ a c, v = .slice a n c := by
  rcases h.2 with ⟨rfl, h0⟩ | ⟨g, cap, cur, e, _⟩
  · exact ⟨none, 0, by rw [h0]⟩
  · exact ⟨_, _, e⟩
set_option maxRecDepth 100000 in
set_option maxHeartbeats 4000000 in
theorem endLine_any (W : World) (B p : Nat) (S : List ByteArray) (L : List Int) (cs : Array Value) (h : DB W B p S L cs) (hS : S.length ≤ 1000000) :
    Calls Tryz.prog 58 #[.pointer (some ⟨p, 0, none⟩)] W fun e w' => e = .returned (.tuple #[]) ∧ DBW W B p (S ++ [strOfNums L]) [] w' := by
  obtain ⟨i0, hi0, hz0, hz1, hz2⟩ := info_parts Tryz.info_str
  obtain ⟨v, hv0, hrow⟩ := h.row
  obtain ⟨a, c, rfl⟩ := own_slice hrow
  obtain ⟨N, hN⟩ : ∃ N, S.length = N := ⟨_, rfl⟩
  obtain ⟨xs, hxs⟩ : ∃ xs, S.map Value.string = xs := ⟨_, rfl⟩
  obtain ⟨line, hline⟩ : ∃ t, strOfNums L = t := ⟨_, rfl⟩
  rw [hN] at hrow hv0 hS
  rw [hxs] at hrow
  have hsb := h.sb
  have hdr : Below W.heap.size W W.drew := ⟨rfl, rfl, rfl, Nat.le_refl _, fun _ _ => rfl⟩
  have hJ0 : Hid (JE W B p cs L (.slice a N c) N xs line 0 W.drew fun _ => undef) := ⟨hsb.size, hdr.mono hsb.size, fun _ _ _ _ _ _ h => h, fun _ => hsb.only hdr, fun _ => hsb.has, fun h => absurd h (by decide), fun _ => own_same hrow fun _ _ h => h, fun h => absurd h (by decide), fun h => absurd h (by decide), fun h => absurd h (by decide)⟩
  have HV0 := hidden hv0
  have HH := hidden h
  have HNX := hidden (And.intro hN (And.intro hxs hline))
  have HBS : Hid (∀ W' : World, Sb W' B p 1 49 cs L → Calls Tryz.prog 82 #[.pointer (some ⟨p, 1, none⟩)] W' fun e w' => e = .returned (.string line) ∧ SbF W' B w') := fun W' hw => by
    have := builderString_any W' B p 1 _ cs L hw
    rwa [hline] at this
  have HHS : Hid (∀ W' v', Has W' p 49 (cs.setIfInBounds 0 v') → Calls Tryz.prog 83 #[.pointer (some ⟨p, 1, none⟩)] W' fun e w' => e = .returned (.tuple #[]) ∧ ∃ cs', SbW W' B p 1 49 (cs.setIfInBounds 0 v') [] w' cs') := fun W' v' hw => builderReset_any W' B p 1 _ _ hw hsb.base (by rw [Array.size_setIfInBounds, h.size]; decide) (by rw [Array.size_setIfInBounds]; exact hsb.lies) (by decide)
  rw [hline]
  clear h hv0 hrow hN hxs hline hsb hdr
  go_enter Tryz.func58, Tryz.ntmps58
  go_upto_region 0 with fail
  refine wp_region_chain (m := 4) (js := [.quiet (.pointer (some ⟨p, 0, none⟩)) 4, .quiet (.pointer (some ⟨p, 0, none⟩)) 4, .quiet (.pointer (some ⟨p, 0, none⟩)) 4, .quiet (.pointer (some ⟨p, 0, none⟩)) 4, .quiet (.slice a N c) 2, .quiet (.pointer (some ⟨p, 0, none⟩)) 4, .quiet (.pointer (some ⟨p, 0, none⟩)) 4, .quiet (.pointer (some ⟨p, 1, none⟩)) 4, .chain 0, .chain 1, .chain 2, .quiet (.pointer (some ⟨p, 0, none⟩)) 4, .quiet (.pointer (some ⟨p, 0, none⟩)) 4, .chain 3]) (by kernel_rfl) (JE W B p cs L (.slice a N c) N xs line) (by kernel_rfl) (by kernel_rfl) ⟨_, hJ0.out⟩ (fun vals => ?_) ?_
  · show SeqW _ _ _ _ _ _ _
    iterate 4
      refine ⟨fun k hk W hW => ?_, ?_⟩
      · unfold Oper.wp
        simp [go_sem]
        try exact ⟨_, rfl, rfl⟩
      simp only [Act.put, List.setIfInBounds_toArray, List.set_cons_succ, List.set_cons_zero]
    refine ⟨fun k hk W hW => ?_, ?_⟩
    · have q : W.cell? ⟨p, 0, none⟩ = some (.slice a N c) := ((hW.has (by omega)).cell 0).trans HV0.out
      unfold Oper.wp
      simp [go_sem, q]
      try exact ⟨_, rfl, rfl⟩
    simp only [Act.put, List.setIfInBounds_toArray, List.set_cons_succ, List.set_cons_zero]
    iterate 3
      refine ⟨fun k hk W hW => ?_, ?_⟩
      · unfold Oper.wp
        simp [go_sem]
        try exact ⟨_, rfl, rfl⟩
      simp only [Act.put, List.setIfInBounds_toArray, List.set_cons_succ, List.set_cons_zero]
    refine ⟨fun W' hW => ?_, ?_⟩
    · unfold Oper.wp
      simp [go_sem]
      refine (HBS.out W' (hW.start rfl)).mono ?_
      rintro e w' ⟨rfl, hf⟩
      have hN : JE W B p cs L (.slice a N c) N xs line 1 w' (upd vals 0 (.string line)) := ⟨Nat.le_trans hW.low hf.below.size, hW.below.trans hf.below, fun q T' c h1 h2 h3 h4 => hf.kept q T' c h1 (hW.kept q T' c h1 h2 h3 h4), fun h => absurd h (by decide), fun _ => hf.kept p _ _ (by decide) (hW.has (by decide)), fun _ => rfl, fun _ => own_same (hW.row (by decide)) fun q c hh => hf.kept q _ c (by decide) hh, fun h => absurd h (by decide), fun h => absurd h (by decide), fun h => absurd h (by decide)⟩
      first | exact hN | exact ⟨_, rfl, hN⟩
    simp only [Act.put, List.setIfInBounds_toArray, List.set_cons_succ, List.set_cons_zero]
    refine ⟨fun W' hW => ?_, ?_⟩
    · have q1 := hW.text (by decide)
      have hb : Below W'.heap.size W' (W'.alloc (.cells #[.string line] 9)) := (Below.refl _ _).alloc (Nat.le_refl _) _
      have hN : JE W B p cs L (.slice a N c) N xs line 2 (W'.alloc (.cells #[.string line] 9)) (upd vals 1 (.slice (some ⟨W'.heap.size, 0, none⟩) 1 1)) := ⟨Nat.le_trans hW.low hb.size, hW.below.trans (hb.mono hW.low), fun q T' c h1 h2 h3 h4 => (hW.kept q T' c h1 h2 h3 h4).alloc _, fun h => absurd h (by decide), fun _ => (hW.has (by decide)).alloc _, fun _ => q1, fun _ => (hW.row (by decide)).alloc _, fun _ => ⟨W'.heap.size, rfl, Has.new _ _ _⟩, fun h => absurd h (by decide), fun h => absurd h (by decide)⟩
      unfold Oper.wp
      simp [go_sem, q1]
      first | exact hN | exact ⟨_, rfl, hN⟩
    simp only [Act.put, List.setIfInBounds_toArray, List.set_cons_succ, List.set_cons_zero]
    refine ⟨fun W' hW => ?_, ?_⟩
    · obtain ⟨qb, hq, hqh⟩ := hW.arr rfl
      have hro := hW.row (by decide)
      refine wp_append_own W' _ _ 28 rfl B 9 i0 (.string ⟨#[]⟩) 1 16 Tryz.underlying28 hi0 hz0 hz1 hz2 rfl (by decide) _ _ _ rfl hro ⟨qb, 0, none⟩ 1 1 [.string line] hq rfl (fun j u hu => by
        match j, hu with
        | 0, hu => simp at hu; subst hu; have := hqh.cell 0; simpa [Addr.add] using this) (by intro u hu; simp at hu; subst hu; rfl) (by unfold maxLen; omega) (by omega) hW.low (fun v' w' h1 h2 _ => ?_)
      have hne : ∀ q T' c, T' ≠ 9 → Has W' q T' c → Has w' q T' c := fun q T' c hT hh => hh.grown h2 (fun e => by
        rcases hro.2 with ⟨e0, _⟩ | ⟨gg, cap, cur, e0, _, hg, _⟩
        · rw [e0] at e; cases e
        · rw [e0] at e
          injection e with e
          subst e
          exact (hh.differ (show Has _ _ _ _ from hg) hT) rfl)
      have hN : JE W B p cs L (.slice a N c) N xs line 3 w' (upd vals 2 v') := ⟨Nat.le_trans hW.low h2.size, hW.below.trans ((Below.refl _ _).grown h2 hW.low (fun k hk => (hro.lt k hk).1)), fun q T' c h3 h4 h5 h6 => hne q T' c h4 (hW.kept q T' c h3 h4 h5 h6), fun h => absurd h (by decide), fun _ => hne p _ _ (by decide) (hW.has (by decide)), fun _ => hW.text (by decide), fun h => absurd h (by decide), fun h => absurd h (by decide), fun _ => h1, fun h => absurd h (by decide)⟩
      exact ⟨_, rfl, hN⟩
    simp only [Act.put, List.setIfInBounds_toArray, List.set_cons_succ, List.set_cons_zero]
    iterate 2
      refine ⟨fun k hk W hW => ?_, ?_⟩
      · unfold Oper.wp
        simp [go_sem]
        try exact ⟨_, rfl, rfl⟩
      simp only [Act.put, List.setIfInBounds_toArray, List.set_cons_succ, List.set_cons_zero]
    refine ⟨fun W' hW => ?_, trivial⟩
    obtain ⟨a2, c2, hv2⟩ := own_slice (hW.app rfl)
    have hh := hW.has (by decide)
    have q1 : W'.cell? ⟨p, 0, none⟩ = some (.slice a N c) := (hh.cell 0).trans HV0.out
    have q2 := hh.free 0
    have hap := hW.app rfl
    rw [hv2] at hap ⊢
    have hN : ∀ u, JE W B p cs L (.slice a N c) N xs line 4 (W'.setCell ⟨p, 0, none⟩ (.slice a2 (N + 1) c2)) (upd vals 3 u) := fun u => ⟨Nat.le_trans hW.low (by simp), hW.below.setCell (p := ⟨p, 0, none⟩) HH.out.sb.base _, fun q T' c h1 h2 h3 h4 => (hW.kept q T' c h1 h2 h3 h4).away h3 _, fun h => absurd h (by decide), fun h => absurd h (by decide), fun _ => hW.text (by decide), fun h => absurd h (by decide), fun h => absurd h (by decide), fun h => absurd h (by decide), fun _ => ⟨_, hh.put 0 _, own_same hap fun q c hq => hq.away (hq.differ hh (by decide)) _⟩⟩
    clear hW hh hap
    unfold Oper.wp
    simp [go_sem, q1, q2]
    first | exact hN _ | exact ⟨undef, hN _⟩ | exact ⟨_, rfl, hN _⟩
  · intro W1 vals hJ
    obtain ⟨v', hh, hr⟩ := hJ.fin rfl
    have HRS := hidden (HHS.out W1 v' hh)
    have HB1 := hidden hJ.below
    have HK1 := hidden hJ.kept
    have HR1 := hidden hr
    have HHH := hidden hh
    clear hJ hh hr hJ0 HBS HHS
    simp only [putAll, List.map_cons, List.map_nil, Job.val, Act.put, List.setIfInBounds_toArray, List.set_cons_succ, List.set_cons_zero]
    go_wp2_with fail
    refine HRS.out.mono ?_
    rintro e w2 ⟨rfl, cs2, hs2⟩
    obtain ⟨hN, hxs, hline⟩ := HNX.out
    have hlt0 : 0 < cs.size := by rw [HH.out.size]; decide
    have HF : Hid (DBW W B p (S ++ [line]) [] w2) := by
      refine ⟨⟨cs2, hs2.sb, by rw [hs2.size, Array.size_setIfInBounds]; exact HH.out.size, ⟨v', ?_, ?_⟩, HH.out.tabs.below (HB1.out.trans hs2.below) HH.out.low, HH.out.low⟩, HB1.out.trans hs2.below, fun q T' c h1 h2 h3 h4 => hs2.kept q T' c h1 h3 (HK1.out q T' c h1 h2 h3 h4)⟩
      · rw [hs2.rest 0 (by omega) (by omega)]
        exact Array.getElem?_setIfInBounds_self_of_lt hlt0
      · rw [List.length_append, hN, List.map_append, hxs]
        exact own_same HR1.out fun q c hq => hs2.kept q _ c (by decide) (hq.differ HHH.out (by decide)) hq
    clear hs2 HRS hN hxs hline HB1 HK1 HR1 HHH hlt0
    go_wp2_with fail
    go_end0
    exact ⟨rfl, HF.out⟩
end Go.Proofs.YtpfombelhajmlaaGreatDoor
namespace Go.Proofs.YtpfombelhajmlaaGreatDoor
open Go.RowKit
theorem joinW_ne : ∀ (S : List ByteArray) {L : List Int}, L ≠ [] → joinW L S = L ++ S.flatMap fun s => 32 :: numsOf s
  | [], L, _ => by simp [joinW]
  | s :: r, L, h => by
    show joinW (addW L s) r = _
    rw [joinW_ne r (addW_ne h s), addW_next h, List.flatMap_cons, List.append_assoc]
theorem joinW_first (s : ByteArray) (r : List ByteArray) (hs : numsOf s ≠ []) : joinW [] (s :: r) = numsOf s ++ r.flatMap fun s => 32 :: numsOf s := by
  show joinW (addW [] s) r = _
  rw [addW_first, joinW_ne r hs]
theorem joinW_app (L : List Int) (S R : List ByteArray) : joinW (joinW L S) R = joinW L (S ++ R) := by
  unfold joinW
  rw [List.foldl_append]
theorem fix_line (f : Fx) : joinW (joinW [] [⟨#[102, 105, 120, 117, 112]⟩]) ([f.pl, f.kind, f.to, f.add].map numT) = fixT f := by
  have h : numsOf (⟨#[102, 105, 120, 117, 112]⟩ : ByteArray) = tFix := by decide
  rw [joinW_app, List.cons_append, joinW_first _ _ (by rw [h]; decide), h]
  simp [fixT, numsOf_numT]
theorem sym_line (m : Sm) : joinW (joinW [] [⟨#[115, 121, 109, 98, 111, 108]⟩, m.name]) ([m.bind, m.loc, m.value].map numT) = symT m := by
  have h : numsOf (⟨#[115, 121, 109, 98, 111, 108]⟩ : ByteArray) = tSym := by decide
  rw [joinW_app, List.cons_append, joinW_first _ _ (by rw [h]; decide), h]
  simp [symT, numsOf_numT]
theorem sec_line (s : Sx) : joinW (joinW [] [⟨#[115, 101, 99, 116, 105, 111, 110]⟩, s.name]) ([s.kind, s.align, s.long].map numT) = tSec ++ 32 :: (numsOf s.name ++ 32 :: (numL s.kind ++ 32 :: (numL s.align ++ 32 :: numL s.long))) := by
  have h : numsOf (⟨#[115, 101, 99, 116, 105, 111, 110]⟩ : ByteArray) = tSec := by decide
  rw [joinW_app, List.cons_append, joinW_first _ _ (by rw [h]; decide), h]
  simp [numsOf_numT]
theorem alloc_below (W : World) (o : Obj) : Below W.heap.size W (W.alloc o) := (Below.refl _ _).alloc (Nat.le_refl _) o
set_option maxRecDepth 100000 in
set_option maxHeartbeats 2000000 in
theorem putFixup_any (W : World) (B p : Nat) (S : List ByteArray) (cs0 : Array Value) (h : DB W B p S [] cs0) (hS : S.length ≤ 1000000) (f : Fx) (hf : I64 f.pl ∧ I64 f.kind ∧ I64 f.to ∧ I64 f.add) :
    Calls Tryz.prog 27 #[.pointer (some ⟨p, 0, none⟩), f.agg] W fun e w' => e = .returned (.tuple #[]) ∧ DBW W B p (S ++ [strOfNums (fixT f)]) [] w' := by
  have HT := hidden (fix_line f)
  obtain ⟨pl, kd, tg, ad⟩ := f
  unfold Fx.agg
  simp only at HT hf ⊢
  obtain ⟨X, hX⟩ : ∃ q, W.alloc (.cells #[.int .i64 pl, .int .i64 kd, .int .i64 tg, .int .i64 ad] 55) = q := ⟨_, rfl⟩
  obtain ⟨fb, hfb⟩ : ∃ q, W.heap.size = q := ⟨_, rfl⟩
  have hbX : Below W.heap.size W X := by rw [← hX]; exact alloc_below _ _
  have HX := hidden (h.only hbX)
  have HWX := hidden (DBW.only h hbX)
  have hxs : Has X fb 55 #[.int .i64 pl, .int .i64 kd, .int .i64 tg, .int .i64 ad] := by rw [← hX, ← hfb]; exact Has.new _ _ _
  have HXS := hidden hxs
  have HFP : Hid (fb ≠ p) := hxs.differ (h.sb.has.below hbX h.sb.has.lt) (by decide)
  have HP1 := hidden (putWords_any (X.alloc (.cells #[.string ⟨#[102, 105, 120, 117, 112]⟩] 9)) B p S [] cs0 (HX.out.only (alloc_below _ _)) X.heap.size 1 1 [⟨#[102, 105, 120, 117, 112]⟩] rfl (Has.new _ _ _) (by decide) (by decide))
  have HW1 := hidden (HWX.out.trans (DBW.only HX.out (alloc_below X (.cells #[.string ⟨#[102, 105, 120, 117, 112]⟩] 9))))
  have HXS1 : Hid (Has (X.alloc (.cells #[.string ⟨#[102, 105, 120, 117, 112]⟩] 9)) fb 55 #[.int .i64 pl, .int .i64 kd, .int .i64 tg, .int .i64 ad]) := hxs.alloc _
  clear h hbX hxs HX HWX
  go_enter Tryz.func27, Tryz.ntmps27
  go_upto_region 1 with fail
  clear hX hfb
  go_wp2_with fail
  refine HP1.out.mono ?_
  rintro e w1 ⟨rfl, hw1⟩
  have HW2 := hidden (HW1.out.trans hw1)
  have hx := hw1.kept fb _ _ (by decide) (by decide) HFP.out HXS1.out
  obtain ⟨cs1, hd1⟩ := hw1.db
  have c0 : w1.cell? ⟨fb, 0, none⟩ = some (.int .i64 pl) := hx.cell 0
  have c1 : w1.cell? ⟨fb, 1, none⟩ = some (.int .i64 kd) := hx.cell 1
  have c2 : w1.cell? ⟨fb, 2, none⟩ = some (.int .i64 tg) := hx.cell 2
  have c3 : w1.cell? ⟨fb, 3, none⟩ = some (.int .i64 ad) := hx.cell 3
  have HD2 := hidden (hd1.only (alloc_below w1 (.cells #[.int .i64 pl, .int .i64 kd, .int .i64 tg, .int .i64 ad] 3)))
  have HW3 := hidden (HW2.out.trans (DBW.only hd1 (alloc_below w1 (.cells #[.int .i64 pl, .int .i64 kd, .int .i64 tg, .int .i64 ad] 3))))
  have HP2 := hidden (putNumbers_any (w1.alloc (.cells #[.int .i64 pl, .int .i64 kd, .int .i64 tg, .int .i64 ad] 3)) B p S _ cs1 HD2.out w1.heap.size 4 4 [pl, kd, tg, ad] rfl (Has.new _ _ _) (by simpa using hf) (by decide) (by decide))
  rw [HT.out] at HP2
  clear HP1 HW1 HXS HXS1 hw1 hx hd1 HD2 HW2 HFP hf
  go_wp2_with fail
  refine HP2.out.mono ?_
  rintro e w2 ⟨rfl, hw2⟩
  obtain ⟨cs2, hd2⟩ := hw2.db
  have HP3 := hidden (endLine_any w2 B p S _ cs2 hd2 hS)
  have HW4 := hidden (HW3.out.trans hw2)
  clear HP2 hw2 hd2 HW3 c0 c1 c2 c3
  go_wp2_with fail
  refine HP3.out.mono ?_
  rintro e w3 ⟨rfl, hw3⟩
  have HW5 := hidden (HW4.out.trans hw3)
  clear HP3 hw3 HW4
  go_wp2_with fail
  go_end0
  exact ⟨rfl, HW5.out⟩
set_option maxRecDepth 100000 in
set_option maxHeartbeats 2000000 in
theorem putSymbol_any (W : World) (B p : Nat) (S : List ByteArray) (cs0 : Array Value) (h : DB W B p S [] cs0) (hS : S.length ≤ 1000000) (m : Sm) (hn : m.name.size ≤ 1000000) (hf : I64 m.bind ∧ I64 m.loc ∧ I64 m.value) :
    Calls Tryz.prog 28 #[.pointer (some ⟨p, 0, none⟩), m.agg] W fun e w' => e = .returned (.tuple #[]) ∧ DBW W B p (S ++ [strOfNums (symT m)]) [] w' := by
  have HT := hidden (sym_line m)
  obtain ⟨nm, bd, lo, va⟩ := m
  unfold Sm.agg
  simp only at HT hf hn ⊢
  obtain ⟨X, hX⟩ : ∃ q, W.alloc (.cells #[.string nm, .int .i64 bd, .int .i64 lo, .int .i64 va] 58) = q := ⟨_, rfl⟩
  obtain ⟨fb, hfb⟩ : ∃ q, W.heap.size = q := ⟨_, rfl⟩
  have hbX : Below W.heap.size W X := by rw [← hX]; exact alloc_below _ _
  have HX := hidden (h.only hbX)
  have HWX := hidden (DBW.only h hbX)
  have hxs : Has X fb 58 #[.string nm, .int .i64 bd, .int .i64 lo, .int .i64 va] := by rw [← hX, ← hfb]; exact Has.new _ _ _
  have HFP : Hid (fb ≠ p) := hxs.differ (h.sb.has.below hbX h.sb.has.lt) (by decide)
  have c0 : X.cell? ⟨fb, 0, none⟩ = some (.string nm) := hxs.cell 0
  have HP1 := hidden (putWords_any (X.alloc (.cells #[.string ⟨#[115, 121, 109, 98, 111, 108]⟩, .string nm] 9)) B p S [] cs0 (HX.out.only (alloc_below _ _)) X.heap.size 2 2 [⟨#[115, 121, 109, 98, 111, 108]⟩, nm] rfl (Has.new _ _ _) (by simp only [lenW, List.length_nil]; have : (⟨#[115, 121, 109, 98, 111, 108]⟩ : ByteArray).size = 6 := rfl; omega) (by decide))
  have HW1 := hidden (HWX.out.trans (DBW.only HX.out (alloc_below X (.cells #[.string ⟨#[115, 121, 109, 98, 111, 108]⟩, .string nm] 9))))
  have HXS1 : Hid (Has (X.alloc (.cells #[.string ⟨#[115, 121, 109, 98, 111, 108]⟩, .string nm] 9)) fb 58 #[.string nm, .int .i64 bd, .int .i64 lo, .int .i64 va]) := hxs.alloc _
  have HNM := hidden hn
  clear h hbX hxs HX HWX hn
  go_enter Tryz.func28, Tryz.ntmps28
  go_upto_region 1 with fail
  clear hX hfb
  go_wp2_with fail
  refine HP1.out.mono ?_
  rintro e w1 ⟨rfl, hw1⟩
  have HW2 := hidden (HW1.out.trans hw1)
  have hx := hw1.kept fb _ _ (by decide) (by decide) HFP.out HXS1.out
  obtain ⟨cs1, hd1⟩ := hw1.db
  have c1 : w1.cell? ⟨fb, 1, none⟩ = some (.int .i64 bd) := hx.cell 1
  have c2 : w1.cell? ⟨fb, 2, none⟩ = some (.int .i64 lo) := hx.cell 2
  have c3 : w1.cell? ⟨fb, 3, none⟩ = some (.int .i64 va) := hx.cell 3
  have HD2 := hidden (hd1.only (alloc_below w1 (.cells #[.int .i64 bd, .int .i64 lo, .int .i64 va] 3)))
  have HW3 := hidden (HW2.out.trans (DBW.only hd1 (alloc_below w1 (.cells #[.int .i64 bd, .int .i64 lo, .int .i64 va] 3))))
  have HP2 := hidden (putNumbers_any (w1.alloc (.cells #[.int .i64 bd, .int .i64 lo, .int .i64 va] 3)) B p S _ cs1 HD2.out w1.heap.size 3 3 [bd, lo, va] rfl (Has.new _ _ _) (by simpa using hf) (by
    have := joinW_length [⟨#[115, 121, 109, 98, 111, 108]⟩, nm] []
    simp only [lenW, List.length_nil] at this
    have h6 : (⟨#[115, 121, 109, 98, 111, 108]⟩ : ByteArray).size = 6 := rfl
    have := HNM.out
    omega) (by decide))
  rw [HT.out] at HP2
  clear HP1 HW1 HXS1 hw1 hx hd1 HD2 HW2 HFP hf c0
  go_wp2_with fail
  refine HP2.out.mono ?_
  rintro e w2 ⟨rfl, hw2⟩
  obtain ⟨cs2, hd2⟩ := hw2.db
  have HP3 := hidden (endLine_any w2 B p S _ cs2 hd2 hS)
  have HW4 := hidden (HW3.out.trans hw2)
  clear HP2 hw2 hd2 HW3 c1 c2 c3
  go_wp2_with fail
  refine HP3.out.mono ?_
  rintro e w3 ⟨rfl, hw3⟩
  have HW5 := hidden (HW4.out.trans hw3)
  clear HP3 hw3 HW4
  go_wp2_with fail
  go_end0
  exact ⟨rfl, HW5.out⟩
structure JZ (w0 : World) (A B p sb : Nat) (y : Sp) (S : List ByteArray) (L : List Int) (k : Nat) (W : World) (vals : Nat → Value) : Prop where
  wrote : k ≤ 2 → DBW w0 B p S L W
  has : k ≤ 3 → Has W sb 52 #[.string y.s.name, .int .i64 y.s.kind, .int .i64 y.s.align, .slice y.a1 y.s.bytes.length y.c1, .int .i64 y.s.size, .slice y.a2 y.s.fixs.length y.c2]
  ints : Ints W .u8 A y.a1 y.s.bytes
  fixs : Fixs W A y.a2 y.s.fixs
  low : A ≤ W.heap.size
  size : 1 ≤ k → vals 0 = .int .i64 y.s.long
  arr : k = 2 → ∃ q, vals 1 = .slice (some ⟨q, 0, none⟩) 3 3 ∧ Has W q 3 #[.int .i64 y.s.kind, .int .i64 y.s.align, .int .i64 y.s.long]
  fin : k = 3 → DBW w0 B p S (joinW L ([y.s.kind, y.s.align, y.s.long].map numT)) W
set_option maxRecDepth 100000 in
set_option maxHeartbeats 4000000 in
theorem putSection_any (W : World) (A B p : Nat) (S : List ByteArray) (cs0 : Array Value) (h : DB W B p S [] cs0) (hAB : A ≤ B) (hS : S.length ≤ 1000000) (y : Sp) (h1 : Ints W .u8 A y.a1 y.s.bytes) (h2 : Fixs W A y.a2 y.s.fixs) (hf : y.s.fits) (hn : y.s.name.size ≤ 1000000) (hb : y.s.bytes.length ≤ 1000000) (hlong : I64 y.s.long) :
    Calls Tryz.prog 26 #[.pointer (some ⟨p, 0, none⟩), y.agg] W fun e w' => e = .returned (.tuple #[]) ∧ DBW W B p (S ++ [strOfNums (secT y.s)]) [] w' := by
  have HT := hidden (sec_line y.s)
  obtain ⟨X, hX⟩ : ∃ q, W.alloc (.cells #[.string y.s.name, .int .i64 y.s.kind, .int .i64 y.s.align, .slice y.a1 y.s.bytes.length y.c1, .int .i64 y.s.size, .slice y.a2 y.s.fixs.length y.c2] 52) = q := ⟨_, rfl⟩
  obtain ⟨fb, hfb⟩ : ∃ q, W.heap.size = q := ⟨_, rfl⟩
  have hbX : Below W.heap.size W X := by rw [← hX]; exact alloc_below _ _
  have HX := hidden (h.only hbX)
  have HWX := hidden (DBW.only h hbX)
  have hxs : Has X fb 52 #[.string y.s.name, .int .i64 y.s.kind, .int .i64 y.s.align, .slice y.a1 y.s.bytes.length y.c1, .int .i64 y.s.size, .slice y.a2 y.s.fixs.length y.c2] := by rw [← hX, ← hfb]; exact Has.new _ _ _
  have HFP : Hid (fb ≠ p) := hxs.differ (h.sb.has.below hbX h.sb.has.lt) (by decide)
  have c0 : X.cell? ⟨fb, 0, none⟩ = some (.string y.s.name) := hxs.cell 0
  have hA : A ≤ W.heap.size := Nat.le_trans hAB h.sb.size
  have HP1 := hidden (putWords_any (X.alloc (.cells #[.string ⟨#[115, 101, 99, 116, 105, 111, 110]⟩, .string y.s.name] 9)) B p S [] cs0 (HX.out.only (alloc_below _ _)) X.heap.size 2 2 [⟨#[115, 101, 99, 116, 105, 111, 110]⟩, y.s.name] rfl (Has.new _ _ _) (by simp only [lenW, List.length_nil]; have : (⟨#[115, 101, 99, 116, 105, 111, 110]⟩ : ByteArray).size = 7 := rfl; omega) (by decide))
  have HW1 := hidden (HWX.out.trans (DBW.only HX.out (alloc_below X (.cells #[.string ⟨#[115, 101, 99, 116, 105, 111, 110]⟩, .string y.s.name] 9))))
  have HXS1 : Hid (Has (X.alloc (.cells #[.string ⟨#[115, 101, 99, 116, 105, 111, 110]⟩, .string y.s.name] 9)) fb 52 #[.string y.s.name, .int .i64 y.s.kind, .int .i64 y.s.align, .slice y.a1 y.s.bytes.length y.c1, .int .i64 y.s.size, .slice y.a2 y.s.fixs.length y.c2]) := hxs.alloc _
  have HNM := hidden hn
  have HBN := hidden hb
  have HI := hidden (fun (W' : World) (hW : Below B W W') => And.intro (h1.below (hW.mono hAB)) (And.intro (h2.below (hW.mono hAB)) (Nat.le_trans hA hW.size)))
  have HFT := hidden hf
  have HLG := hidden hlong
  have hagg : y.agg = .agg #[.string y.s.name, .int .i64 y.s.kind, .int .i64 y.s.align, .slice y.a1 y.s.bytes.length y.c1, .int .i64 y.s.size, .slice y.a2 y.s.fixs.length y.c2] := rfl
  have HSZ : Hid (∀ W' : World, Ints W' .u8 A y.a1 y.s.bytes → Fixs W' A y.a2 y.s.fixs → A ≤ W'.heap.size → Calls Tryz.prog 56 #[.agg #[.string y.s.name, .int .i64 y.s.kind, .int .i64 y.s.align, .slice y.a1 y.s.bytes.length y.c1, .int .i64 y.s.size, .slice y.a2 y.s.fixs.length y.c2]] W' fun e w' => e = .returned (.int .i64 y.s.long) ∧ Below W'.heap.size W' w') := fun W' k1 k2 k3 => wantSectionSize W' A y.s y.a1 y.c1 y.a2 y.c2 k1 k2 k3 hf
  rw [hagg]
  obtain ⟨nb, hnb⟩ : ∃ q, y.s.bytes.length = q := ⟨_, rfl⟩
  have HNB := hidden hnb
  clear h hbX hxs HX HWX hn hb h1 h2 hf hA hAB hlong hagg hnb
  go_enter Tryz.func26, Tryz.ntmps26
  go_upto_region 1 with fail
  clear hX hfb
  go_wp2_with fail
  refine HP1.out.mono ?_
  rintro e w1 ⟨rfl, hw1⟩
  have HW2 := hidden (HW1.out.trans hw1)
  have hx := hw1.kept fb _ _ (by decide) (by decide) HFP.out HXS1.out
  obtain ⟨L1, hL1⟩ : ∃ q, joinW [] [⟨#[115, 101, 99, 116, 105, 111, 110]⟩, y.s.name] = q := ⟨_, rfl⟩
  have hl1 : L1.length ≤ 1000020 := by
    have := joinW_length [⟨#[115, 101, 99, 116, 105, 111, 110]⟩, y.s.name] []
    rw [hL1] at this
    simp only [lenW, List.length_nil] at this
    have h6 : (⟨#[115, 101, 99, 116, 105, 111, 110]⟩ : ByteArray).size = 7 := rfl
    have := HNM.out
    omega
  rw [hL1] at HT HW2
  have HL1 := hidden hl1
  have hdr : Below w1.heap.size w1 w1.drew := ⟨rfl, rfl, rfl, Nat.le_refl _, fun _ _ => rfl⟩
  have hJ0 : Hid (JZ W A B p fb y S L1 0 w1.drew fun _ => undef) := by
    obtain ⟨cs1, hd1⟩ := HW2.out.db
    have hw3 := HW2.out.trans (DBW.only hd1 hdr)
    obtain ⟨i1, i2, i3⟩ := HI.out w1.drew hw3.below
    exact ⟨fun _ => hw3, fun _ => hx, i1, i2, i3, fun h => absurd h (by decide), fun h => absurd h (by decide), fun h => absurd h (by decide)⟩
  clear HP1 HW1 HXS1 hw1 hx c0 HW2 hL1 hl1 hdr
  go_upto_region 2 with fail
  refine wp_region_chain (m := 3) (js := [.quiet (.pointer (some ⟨p, 0, none⟩)) 3, .quiet (.pointer (some ⟨fb, 1, none⟩)) 3, .quiet (.int .i64 y.s.kind) 1, .quiet (.pointer (some ⟨fb, 2, none⟩)) 3, .quiet (.int .i64 y.s.align) 1, .quiet (.agg #[.string y.s.name, .int .i64 y.s.kind, .int .i64 y.s.align, .slice y.a1 y.s.bytes.length y.c1, .int .i64 y.s.size, .slice y.a2 y.s.fixs.length y.c2]) 0, .chain 0, .chain 1, .chain 2]) (by kernel_rfl) (JZ W A B p fb y S L1) (by kernel_rfl) (by kernel_rfl) ⟨_, hJ0.out⟩ (fun vals => ?_) ?_
  · show SeqW _ _ _ _ _ _ _
    iterate 2
      refine ⟨fun k hk W hW => ?_, ?_⟩
      · unfold Oper.wp
        simp [go_sem]
        try exact ⟨_, rfl, rfl⟩
      simp only [Act.put, List.setIfInBounds_toArray, List.set_cons_succ, List.set_cons_zero]
    refine ⟨fun k hk W hW => ?_, ?_⟩
    · have q := (hW.has (by omega)).cell 1
      unfold Oper.wp
      simp [go_sem, q]
      try exact ⟨_, rfl, rfl⟩
    simp only [Act.put, List.setIfInBounds_toArray, List.set_cons_succ, List.set_cons_zero]
    refine ⟨fun k hk W hW => ?_, ?_⟩
    · unfold Oper.wp
      simp [go_sem]
      try exact ⟨_, rfl, rfl⟩
    simp only [Act.put, List.setIfInBounds_toArray, List.set_cons_succ, List.set_cons_zero]
    refine ⟨fun k hk W hW => ?_, ?_⟩
    · have q := (hW.has (by omega)).cell 2
      unfold Oper.wp
      simp [go_sem, q]
      try exact ⟨_, rfl, rfl⟩
    simp only [Act.put, List.setIfInBounds_toArray, List.set_cons_succ, List.set_cons_zero]
    refine ⟨fun k hk W hW => ?_, ?_⟩
    · have q0 := (hW.has (by omega)).cell 0
      have q1 := (hW.has (by omega)).cell 1
      have q2 := (hW.has (by omega)).cell 2
      have q3 := (hW.has (by omega)).cell 3
      have q4 := (hW.has (by omega)).cell 4
      have q5 := (hW.has (by omega)).cell 5
      unfold Oper.wp
      simp [go_sem, q0, q1, q2, q3, q4, q5]
      try exact ⟨_, rfl, rfl⟩
    simp only [Act.put, List.setIfInBounds_toArray, List.set_cons_succ, List.set_cons_zero]
    refine ⟨fun W' hW => ?_, ?_⟩
    · unfold Oper.wp
      simp [go_sem]
      refine (HSZ.out W' hW.ints hW.fixs hW.low).mono ?_
      rintro e w' ⟨rfl, hb⟩
      have hN : JZ W A B p fb y S L1 1 w' (upd vals 0 (.int .i64 y.s.long)) := by
        obtain ⟨cs1, hd1⟩ := (hW.wrote (by decide)).db
        exact ⟨fun _ => (hW.wrote (by decide)).trans (DBW.only hd1 hb), fun _ => (hW.has (by decide)).below hb (hW.has (by decide)).lt, hW.ints.below (hb.mono hW.low), hW.fixs.below (hb.mono hW.low), Nat.le_trans hW.low hb.size, fun _ => rfl, fun h => absurd h (by decide), fun h => absurd h (by decide)⟩
      first | exact hN | exact ⟨_, rfl, hN⟩
    simp only [Act.put, List.setIfInBounds_toArray, List.set_cons_succ, List.set_cons_zero]
    refine ⟨fun W' hW => ?_, ?_⟩
    · have q1 := hW.size (by decide)
      have hb := alloc_below W' (.cells #[.int .i64 y.s.kind, .int .i64 y.s.align, .int .i64 y.s.long] 3)
      have hN : JZ W A B p fb y S L1 2 (W'.alloc (.cells #[.int .i64 y.s.kind, .int .i64 y.s.align, .int .i64 y.s.long] 3)) (upd vals 1 (.slice (some ⟨W'.heap.size, 0, none⟩) 3 3)) := by
        obtain ⟨cs1, hd1⟩ := (hW.wrote (by decide)).db
        exact ⟨fun _ => (hW.wrote (by decide)).trans (DBW.only hd1 hb), fun _ => (hW.has (by decide)).alloc _, hW.ints.below (hb.mono hW.low), hW.fixs.below (hb.mono hW.low), Nat.le_trans hW.low hb.size, fun _ => q1, fun _ => ⟨_, rfl, Has.new _ _ _⟩, fun h => absurd h (by decide)⟩
      unfold Oper.wp
      simp [go_sem, q1]
      first | exact hN | exact ⟨_, rfl, hN⟩
    simp only [Act.put, List.setIfInBounds_toArray, List.set_cons_succ, List.set_cons_zero]
    refine ⟨fun W' hW => ?_, trivial⟩
    obtain ⟨qb, hq, hqh⟩ := hW.arr rfl
    have hw := hW.wrote (by decide)
    obtain ⟨cs1, hd1⟩ := hw.db
    have hPN := hidden (putNumbers_any W' B p S L1 cs1 hd1 qb 3 3 [y.s.kind, y.s.align, y.s.long] rfl hqh (by simpa using ⟨HFT.out.kind, HFT.out.align, HLG.out⟩) (by have := HL1.out; omega) (by decide))
    unfold Oper.wp
    simp [go_sem, hq]
    refine hPN.out.mono ?_
    rintro e w' ⟨rfl, hn⟩
    have hall := hw.trans hn
    obtain ⟨i1, i2, i3⟩ := HI.out w' hall.below
    have hN : ∀ u, JZ W A B p fb y S L1 3 w' (upd vals 2 u) := fun u => ⟨fun h => absurd h (by decide), fun _ => hn.kept fb _ _ (by decide) (by decide) HFP.out (hW.has (by decide)), i1, i2, i3, fun _ => hW.size (by decide), fun h => absurd h (by decide), fun _ => hall⟩
    first | exact hN _ | exact ⟨_, rfl, hN _⟩
  · intro w2 vals hJ
    have hw := hJ.fin rfl
    rw [HT.out] at hw
    have hx := hJ.has (by decide)
    have c3 : w2.cell? ⟨fb, 3, none⟩ = some (.slice y.a1 y.s.bytes.length y.c1) := hx.cell 3
    obtain ⟨cs2, hd2⟩ := hw.db
    obtain ⟨L2, hL2⟩ : ∃ q, tSec ++ 32 :: (numsOf y.s.name ++ 32 :: (numL y.s.kind ++ 32 :: (numL y.s.align ++ 32 :: numL y.s.long))) = q := ⟨_, rfl⟩
    have hne : L2 ≠ [] := by rw [← hL2]; simp
    rw [hL2] at hw hd2
    have hsecT : Hid (secT y.s = if 0 < y.s.bytes.length then L2 ++ 32 :: hexL y.s.bytes else L2) := by
      show _ = _
      unfold secT
      rw [← hL2]
      split <;> simp
    have hl2 : Hid (L2.length ≤ 1001000) := by
      show _ ≤ _
      rw [← hL2]
      have h1 := numL_size HFT.out.kind
      have h2 := numL_size HFT.out.align
      have h3 := numL_size HLG.out
      have h4 := HNM.out
      have h5 : tSec.length = 7 := rfl
      simp only [List.length_append, List.length_cons, numsOf_length]
      omega
    have HW2 := hidden hw
    have HD2 := hidden hd2
    have HNE := hidden hne
    have HI1 := hidden hJ.ints
    have HLW := hidden hJ.low
    simp only [putAll, List.map_cons, List.map_nil, Job.val, Act.put, List.setIfInBounds_toArray, List.set_cons_succ, List.set_cons_zero]
    clear hJ0 hJ hw hd2 hne hx HT hL2 HSZ
    rw [HNB.out] at c3
    by_cases hz : 0 < nb
    · have hzi : (0 : Int) < (nb : Int) := by omega
      have HHX := hidden (hexText_any w2 A y.a1 y.c1 y.s.bytes HI1.out HLW.out (by have := HBN.out; omega))
      rw [HNB.out] at HHX
      obtain ⟨tx, htx⟩ : ∃ q, strOfNums (hexL y.s.bytes) = q := ⟨_, rfl⟩
      rw [htx] at HHX
      have HTX := hidden htx
      clear htx
      go_wp2_with fail
      refine HHX.out.mono ?_
      rintro e w3 ⟨rfl, hb3⟩
      have HD3 := hidden (HD2.out.only hb3)
      have HW3 := hidden (HW2.out.trans (DBW.only HD2.out hb3))
      have HP := hidden (putWords_any (w3.alloc (.cells #[.string tx] 9)) B p S L2 cs2 (HD3.out.only (alloc_below _ _)) w3.heap.size 1 1 [tx] rfl (Has.new _ _ _) (by simp only [lenW]; rw [← HTX.out, strOfNums_size, hexL_length]; have := HBN.out; have := hl2.out; omega) (by decide))
      have HW4 := hidden (HW3.out.trans (DBW.only HD3.out (alloc_below w3 (.cells #[.string tx] 9))))
      clear HHX hb3 HD3 HW3 c3
      go_wp2_with fail
      refine HP.out.mono ?_
      rintro e w4 ⟨rfl, hw4⟩
      obtain ⟨cs4, hd4⟩ := hw4.db
      have HE := hidden (endLine_any w4 B p S _ cs4 hd4 hS)
      have HW5 := hidden (HW4.out.trans hw4)
      have HLN : Hid (joinW L2 [tx] = secT y.s) := by
        show _ = _
        rw [hsecT.out, if_pos (by rw [HNB.out]; exact hz), joinW_ne _ HNE.out, ← HTX.out]
        have : numsOf (strOfNums (hexL y.s.bytes)) = hexL y.s.bytes := numsOf_strOfNums fun c hc => by have := hexL_chars y.s.bytes (fun x hx => wf_u8.mp (HI1.out.1 x hx)) c hc; omega
        simp [this]
      rw [HLN.out] at HE
      clear HP hw4 hd4 HW4
      go_wp2_with fail
      refine HE.out.mono ?_
      rintro e w5 ⟨rfl, hw5⟩
      have HF := hidden (HW5.out.trans hw5)
      clear HE hw5 HW5
      go_wp2_with fail
      go_end0
      exact ⟨rfl, HF.out⟩
    · have hzi : ¬ (0 : Int) < (nb : Int) := by omega
      have HE := hidden (endLine_any w2 B p S L2 cs2 HD2.out hS)
      have HLN : Hid (L2 = secT y.s) := by show _ = _; rw [hsecT.out, if_neg (by rw [HNB.out]; exact hz)]
      rw [HLN.out] at HE
      go_wp2_with fail
      refine HE.out.mono ?_
      rintro e w5 ⟨rfl, hw5⟩
      have HF := hidden (HW2.out.trans hw5)
      clear HE hw5 HW2
      go_wp2_with fail
      go_end0
      exact ⟨rfl, HF.out⟩
end Go.Proofs.YtpfombelhajmlaaGreatDoor
namespace Go.Proofs.YtpfombelhajmlaaGreatDoor
open Go.RowKit
theorem dbLies : liesAt Tryz.prog Tryz.prog.depth 49 (3 / Tryz.prog.cellsOf 49) 1 47 1 = true := by kernel_rfl
def linesTo (l : List Sp) (k : Nat) : List ByteArray := ((l.take k).flatMap fun y => secT y.s :: y.s.fixs.map fixT).map strOfNums
theorem linesTo_snoc {l : List Sp} {k : Nat} {y : Sp} (h : l[k]? = some y) : linesTo l (k + 1) = linesTo l k ++ [strOfNums (secT y.s)] ++ y.s.fixs.map fun f => strOfNums (fixT f) := by
  unfold linesTo
  rw [List.take_add_one, h, List.flatMap_append, List.map_append]
  simp
theorem linesTo_all (l : List Sp) (ms : List Sm) (h : objOk (l.map Sp.s) ms = true) : dumpX (l.map Sp.s) ms = linesTo l l.length ++ ms.map fun m => strOfNums (symT m) := by
  unfold dumpX linesTo dumpL
  rw [if_pos h, List.take_length, List.map_append]
  congr 1
  · rw [List.flatMap_map]
  · rw [List.map_map]; rfl
set_option maxRecDepth 100000 in
set_option maxHeartbeats 4000000 in
theorem dumpObject_any (w : World) (B : Nat) (a1 a2 : Option Addr) (c1 c2 n m : Nat) (l : List Sp) (ms : List Sm) (hn : n = l.length) (hm : m = ms.length) (hT : Tabs w) (h1 : Sects w B a1 l) (h2 : Syms w B a2 ms) (hB : B ≤ w.heap.size) (hlen : n ≤ 9223372036854775807) (hlem : m ≤ 9223372036854775807)
    (hl : ∀ y ∈ l, y.s.fits) (hs : ∀ x ∈ ms, x.fits) :
    Calls Tryz.prog 7 #[.agg #[.slice a1 n c1, .slice a2 m c2]] w fun e w' => ∃ v, e = .returned v ∧ w'.ownsRow w.heap.size 9 1 v (dumpX (l.map Sp.s) ms).length ((dumpX (l.map Sp.s) ms).map Value.string) ∧ Below w.heap.size w w' := by
  obtain ⟨ok, hok⟩ : ∃ ok, objOk (l.map Sp.s) ms = ok := ⟨_, rfl⟩
  have HOK := hidden hok
  obtain ⟨X, hX⟩ : ∃ X, w.alloc (.cells #[.slice a1 n c1, .slice a2 m c2] 26) = X := ⟨_, rfl⟩
  obtain ⟨bx, hbx⟩ : ∃ bx, w.heap.size = bx := ⟨_, rfl⟩
  have hx : Has X bx 26 #[.slice a1 n c1, .slice a2 m c2] := by rw [← hX, ← hbx]; exact Has.new _ _ _
  have hbX : Below w.heap.size w X := by rw [← hX]; exact alloc_below _ _
  have HOB : Hid (∀ W, Below w.heap.size w W → Calls Tryz.prog 25 #[.agg #[.slice a1 n c1, .slice a2 m c2]] W fun e w' => e = .returned (.bool ok) ∧ Below W.heap.size W w') := fun W hb => by
    have := objectValid_any W B a1 a2 c1 c2 n m l ms hn hm (h1.below (hb.mono hB)) (h2.below (hb.mono hB)) (Nat.le_trans hB hb.size) hlen hlem hl hs
    rwa [hok] at this
  have HH1 := hidden (fun (W : World) (hb : Below w.heap.size w W) => And.intro (h1.below (hb.mono hB)) (h2.below (hb.mono hB)))
  have HBX := hidden hbX
  have x0 : X.cell? ⟨bx, 0, none⟩ = some (.slice a1 n c1) := hx.cell 0
  have x1 : X.cell? ⟨bx, 1, none⟩ = some (.slice a2 m c2) := hx.cell 1
  have HX := hidden hx
  have HN := hidden hn
  have HM := hidden hm
  have HFL := hidden hl
  have HFS := hidden hs
  have HT := hidden hT
  have HBX0 := hidden hbx
  have HBB := hidden hB
  clear hx hbX h1 h2 hn hm hok hl hs hT hB
  go_enter Tryz.func7, Tryz.ntmps7
  go_upto_region 1 with fail
  clear hX hbx
  have HV := hidden (HOB.out X HBX.out)
  clear HOB
  go_wp2_with fail
  refine HV.out.mono ?_
  clear HV
  rintro e w1 ⟨rfl, hb1⟩
  have HB1 := hidden (HBX.out.trans (hb1.mono HBX.out.size))
  have HX1 := hidden (HX.out.below hb1 HX.out.lt)
  clear hb1 x0 x1 HX
  rcases ok with _ | _
  · have HD : Hid (dumpX (l.map Sp.s) ms = []) := by show _ = _; unfold dumpX; rw [HOK.out]; rfl
    go_wp2_with fail
    go_ret
    rw [HD.out]
    exact ⟨_, rfl, World.ownsRow_nil _ _ _ _, HB1.out⟩
  have HTOLD := hidden (objOk_told HOK.out)
  have hn8 : n ≤ 8 := by rw [HN.out]; exact HTOLD.out.secs
  have hm12 : m ≤ 12 := by rw [HM.out]; exact HTOLD.out.syms
  obtain ⟨p, hp⟩ : ∃ p, w1.heap.size = p := ⟨_, rfl⟩
  obtain ⟨w2, hw2⟩ : ∃ q, w1.alloc (.cells #[.slice none 0 0, .pointer none, .slice none 0 0] 49) = q := ⟨_, rfl⟩
  have hb2 : Below w1.heap.size w1 w2 := by rw [← hw2]; exact alloc_below _ _
  have hD2 : Hid (DBW w2 p p [] [] w2) := by
    have hh : Has w2 p 49 #[.slice none 0 0, .pointer none, .slice none 0 0] := by rw [← hw2, ← hp]; exact Has.new _ _ _
    have hT1 := HT.out.below HB1.out HT.out.lt
    have hT2 := hT1.below hb2 hT1.lt
    exact ⟨⟨_, ⟨hh, Nat.le_refl _, ⟨_, rfl, .inl rfl⟩, ⟨_, rfl, World.ownsRow_nil _ _ _ _, fun _ => rfl⟩, dbLies, by decide, fun x hx => absurd hx (by simp)⟩, rfl, ⟨_, rfl, World.ownsRow_nil _ _ _ _⟩, hT2, by rw [← hp]; exact hT1.lt⟩, Below.refl _ _, fun _ _ _ _ _ _ h => h⟩
  have HWP : Hid (w.heap.size ≤ p) := by show _ ≤ _; rw [← hp]; exact HB1.out.size
  have HB2 := hidden (HB1.out.trans (hb2.mono HB1.out.size))
  have hx2 := HX1.out.below hb2 HX1.out.lt
  have x0 : w2.cell? ⟨bx, 0, none⟩ = some (.slice a1 n c1) := hx2.cell 0
  have HX2 := hidden hx2
  have HXP : Hid (bx < p) := by show _ < _; rw [← hp]; exact HX1.out.lt
  clear hb2 hx2
  go_upto_region 4 with fail
  clear hp hw2
  go_wp2_with fail
  go_loopw [16] (fun i wr => ∃ k : Nat, i = .int .i64 k ∧ k ≤ n ∧ (linesTo l k).length ≤ 7 * k ∧ Hid (DBW w2 p p (linesTo l k) [] wr)) (fun i _ => n - (intOf i).toNat)
  case atStart => exact ⟨0, rfl, Nat.zero_le _, by simp [linesTo], hD2.out⟩
  case round =>
    obtain ⟨k, rfl, hk, hS7, hd⟩ := hrel
    clear x0 hD2
    have HBR := hidden (HB2.out.trans (hd.out.below.mono HWP.out))
    by_cases hlt : k < n
    · have hi : (k : Int) < (n : Int) := by omega
      have hkl : k < l.length := by rw [← HN.out]; exact hlt
      obtain ⟨b, off, rfl, hbB, hpp⟩ := (HH1.out wr HBR.out).1.at_ hkl
      obtain ⟨y, hy⟩ : ∃ y, l[k] = y := ⟨_, rfl⟩
      rw [hy] at hpp
      obtain ⟨p0, p1, p2, p3, p4, p5⟩ := hpp
      have hym : y ∈ l := by rw [← hy]; exact List.getElem_mem hkl
      have HYM := hidden hym
      have HSN := hidden (linesTo_snoc (l := l) (k := k) (y := y) (by rw [List.getElem?_eq_getElem hkl, hy]))
      obtain ⟨hno, hy48, hy6, hlg0, hlg1, -⟩ := sect_parts (HTOLD.out.sec y hym)
      have hns := ((nameOk_iff _).1 hno).1.2
      rw [Array.length_toList] at hns
      change y.s.name.size ≤ 8 at hns
      obtain ⟨S, hS⟩ : ∃ S, linesTo l k = S := ⟨_, rfl⟩
      rw [hS] at hS7 hd HSN
      obtain ⟨w3, hw3⟩ : ∃ q, wr.alloc (.cells #[.string y.s.name, .int .i64 y.s.kind, .int .i64 y.s.align, .slice y.a1 y.s.bytes.length y.c1, .int .i64 y.s.size, .slice y.a2 y.s.fixs.length y.c2] 52) = q := ⟨_, rfl⟩
      obtain ⟨sb, hsb⟩ : ∃ q, wr.heap.size = q := ⟨_, rfl⟩
      have hb3 : Below wr.heap.size wr w3 := by rw [← hw3]; exact alloc_below _ _
      have hx3 : Has w3 sb 52 #[.string y.s.name, .int .i64 y.s.kind, .int .i64 y.s.align, .slice y.a1 y.s.bytes.length y.c1, .int .i64 y.s.size, .slice y.a2 y.s.fixs.length y.c2] := by rw [← hw3, ← hsb]; exact Has.new _ _ _
      obtain ⟨cs, hdb⟩ := hd.out.db
      have HD3 := hidden (hdb.only hb3)
      have HW3 := hidden (hd.out.trans (DBW.only hdb hb3))
      have HB3 := hidden (HB2.out.trans (HW3.out.below.mono HWP.out))
      have HSP : Hid (sb ≠ p) := hx3.differ HD3.out.sb.has (by decide)
      have hsec := (HH1.out w3 HB3.out).1
      have hag : y.agg = .agg #[.string y.s.name, .int .i64 y.s.kind, .int .i64 y.s.align, .slice y.a1 y.s.bytes.length y.c1, .int .i64 y.s.size, .slice y.a2 y.s.fixs.length y.c2] := rfl
      have HPS := hidden (putSection_any w3 B p p S cs HD3.out (by have := HBB.out; have := HWP.out; omega) (by omega) y (hsec.bytes y hym) (hsec.fixs y hym) (HFL.out y hym) (by omega) (by omega) ⟨by omega, by omega⟩)
      rw [hag] at HPS
      have q0 : w3.cell? ⟨sb, 0, none⟩ = some (.string y.s.name) := hx3.cell 0
      have q1 : w3.cell? ⟨sb, 1, none⟩ = some (.int .i64 y.s.kind) := hx3.cell 1
      have q2 : w3.cell? ⟨sb, 2, none⟩ = some (.int .i64 y.s.align) := hx3.cell 2
      have q3 : w3.cell? ⟨sb, 3, none⟩ = some (.slice y.a1 y.s.bytes.length y.c1) := hx3.cell 3
      have q4 : w3.cell? ⟨sb, 4, none⟩ = some (.int .i64 y.s.size) := hx3.cell 4
      have q5 : w3.cell? ⟨sb, 5, none⟩ = some (.slice y.a2 y.s.fixs.length y.c2) := hx3.cell 5
      have HX3 := hidden hx3
      have HY6 := hidden hy6
      clear hy hkl hym hno hS hb3 hx3 hdb hd hsec hag hy48 hlg0 hlg1 hns
      go_upto_region 7 with fail
      try rw [hw3]
      try rw [hsb]
      clear hw3 hsb p0 p1 p2 p3 p4 p5
      go_wp2_with fail
      refine HPS.out.mono ?_
      rintro e w4 ⟨rfl, hw4⟩
      have HW4 := hidden (HW3.out.trans hw4)
      have hx4 := hw4.kept sb _ _ (by decide) (by decide) HSP.out HX3.out
      obtain ⟨nf, hnf⟩ : ∃ q, y.s.fixs.length = q := ⟨_, rfl⟩
      have q5' : w4.cell? ⟨sb, 5, none⟩ = some (.slice y.a2 nf y.c2) := (hx4.cell 5).trans (by rw [← hnf]; rfl)
      have HNF := hidden hnf
      have hnf6 : nf ≤ 6 := by rw [← hnf]; exact HY6.out
      clear HPS hw4 hx4 q0 q1 q2 q3 q4 q5 HW3 HX3 HD3 hnf
      go_wp2_with fail
      go_loopw [25] (fun i wq => ∃ j : Nat, i = .int .i64 j ∧ j ≤ nf ∧ Hid (DBW w2 p p (S ++ [strOfNums (secT y.s)] ++ (y.s.fixs.take j).map fun f => strOfNums (fixT f)) [] wq)) (fun i _ => nf - (intOf i).toNat)
      case atStart => exact ⟨0, rfl, Nat.zero_le _, by rw [List.take_zero, List.map_nil, List.append_nil]; exact HW4.out⟩
      case round =>
        clear q5'
        clear HW4
        obtain ⟨j, rfl, hj, hd⟩ := hrel
        by_cases hjlt : j < nf
        · have hji : (j : Int) < (nf : Int) := by omega
          have hjl : j < y.s.fixs.length := by rw [HNF.out]; exact hjlt
          have HBQ := hidden (HB2.out.trans (hd.out.below.mono HWP.out))
          obtain ⟨b2, off2, ha2, _, r0, r1, r2, r3⟩ := ((HH1.out wr HBQ.out).1.fixs y HYM.out).at_ hjl
          rw [ha2]
          obtain ⟨f, hf⟩ : ∃ f, y.s.fixs[j] = f := ⟨_, rfl⟩
          rw [hf] at r0 r1 r2 r3
          have hfm : f ∈ y.s.fixs := by rw [← hf]; exact List.getElem_mem hjl
          have hf64 := (HFL.out y HYM.out).fixs f hfm
          have HQN : Hid (S ++ [strOfNums (secT y.s)] ++ ((y.s.fixs.take (j + 1)).map fun f => strOfNums (fixT f)) = (S ++ [strOfNums (secT y.s)] ++ (y.s.fixs.take j).map fun f => strOfNums (fixT f)) ++ [strOfNums (fixT f)]) := by
            show _ = _
            rw [List.take_add_one, List.getElem?_eq_getElem hjl, hf, List.map_append]
            simp
          obtain ⟨Q, hQ⟩ : ∃ Q, (S ++ [strOfNums (secT y.s)] ++ (y.s.fixs.take j).map fun f => strOfNums (fixT f)) = Q := ⟨_, rfl⟩
          have hQl : Q.length ≤ 1000 := by
            rw [← hQ]
            simp only [List.length_append, List.length_map, List.length_take, List.length_singleton]
            omega
          rw [hQ] at hd HQN
          obtain ⟨w5, hw5⟩ : ∃ q, wr.alloc (.cells #[.int .i64 f.pl, .int .i64 f.kind, .int .i64 f.to, .int .i64 f.add] 55) = q := ⟨_, rfl⟩
          obtain ⟨fb, hfb⟩ : ∃ q, wr.heap.size = q := ⟨_, rfl⟩
          have hb5 : Below wr.heap.size wr w5 := by rw [← hw5]; exact alloc_below _ _
          have hx5 : Has w5 fb 55 #[.int .i64 f.pl, .int .i64 f.kind, .int .i64 f.to, .int .i64 f.add] := by rw [← hw5, ← hfb]; exact Has.new _ _ _
          obtain ⟨cs5, hdb⟩ := hd.out.db
          have HD5 := hidden (hdb.only hb5)
          have HW5 := hidden (hd.out.trans (DBW.only hdb hb5))
          have hag : f.agg = .agg #[.int .i64 f.pl, .int .i64 f.kind, .int .i64 f.to, .int .i64 f.add] := rfl
          have HPF := hidden (putFixup_any w5 p p Q cs5 HD5.out (by omega) f hf64)
          rw [hag] at HPF
          have q0 : w5.cell? ⟨fb, 0, none⟩ = some (.int .i64 f.pl) := hx5.cell 0
          have q1 : w5.cell? ⟨fb, 1, none⟩ = some (.int .i64 f.kind) := hx5.cell 1
          have q2 : w5.cell? ⟨fb, 2, none⟩ = some (.int .i64 f.to) := hx5.cell 2
          have q3 : w5.cell? ⟨fb, 3, none⟩ = some (.int .i64 f.add) := hx5.cell 3
          clear hf hfm hjl hQ hb5 hx5 hdb hd hag hf64 HD5
          go_upto_region 11 with fail
          try rw [hw5]
          try rw [hfb]
          clear hw5 hfb r0 r1 r2 r3 ha2
          go_wp2_with fail
          refine HPF.out.mono ?_
          rintro e w6 ⟨rfl, hw6⟩
          have HW6 : Hid (DBW w2 p p (S ++ [strOfNums (secT y.s)] ++ ((y.s.fixs.take (j + 1)).map fun f => strOfNums (fixT f))) [] w6) := by show DBW _ _ _ _ _ _; rw [HQN.out]; exact HW5.out.trans hw6
          clear HPF hw6 HW5 q0 q1 q2 q3 HQN
          go_wp2_with fail
          go_roundw
          case rel => exact ⟨j + 1, by go_num, by omega, HW6⟩
          case measure => simp [intOf]; omega
        · have hji : ¬ (j : Int) < (nf : Int) := by omega
          have HDK : Hid (DBW w2 p p (linesTo l (k + 1)) [] wr) := by
            have := hd.out
            rw [List.take_of_length_le (by rw [HNF.out]; omega)] at this
            show DBW _ _ _ _ _ _
            rw [HSN.out]
            exact this
          have hS8 : (linesTo l (k + 1)).length ≤ 7 * (k + 1) := by
            rw [HSN.out]
            simp only [List.length_append, List.length_map, List.length_singleton]
            have := HNF.out
            omega
          have HS8 := hidden hS8
          clear hd hS8 HSN
          go_wp2_with fail
          go_roundw
          case rel => exact ⟨k + 1, by go_num, by omega, HS8.out, HDK⟩
          case measure => simp [intOf]; omega
    · have hi : ¬ (k : Int) < (n : Int) := by omega
      have hkn : k = l.length := by rw [← HN.out]; omega
      have HDALL := hidden (linesTo_all l ms HOK.out)
      rw [hkn] at hd hS7
      obtain ⟨S, hS⟩ : ∃ S, linesTo l l.length = S := ⟨_, rfl⟩
      have hSl : S.length ≤ 100 := by rw [← hS]; have := HN.out; omega
      rw [hS] at hd HDALL
      have hxr := hd.out.below.cell (p := ⟨bx, 1, none⟩) (by show bx < p; exact HXP.out)
      have x1 : wr.cell? ⟨bx, 1, none⟩ = some (.slice a2 m c2) := hxr.trans (HX2.out.cell 1)
      have HD0 := hidden hd.out
      clear hkn hS hS7 hd hxr
      go_wp2_with fail
      go_loopw [36] (fun i wq => ∃ j : Nat, i = .int .i64 j ∧ j ≤ m ∧ Hid (DBW w2 p p (S ++ (ms.take j).map fun s => strOfNums (symT s)) [] wq)) (fun i _ => m - (intOf i).toNat)
      case atStart => exact ⟨0, rfl, Nat.zero_le _, by rw [List.take_zero, List.map_nil, List.append_nil]; exact HD0.out⟩
      case round =>
        clear x1
        clear HD0
        obtain ⟨j, rfl, hj, hd⟩ := hrel
        by_cases hjlt : j < m
        · have hji : (j : Int) < (m : Int) := by omega
          have hjl : j < ms.length := by rw [← HM.out]; exact hjlt
          have HBQ := hidden (HB2.out.trans (hd.out.below.mono HWP.out))
          obtain ⟨b2, off2, ha2, _, r0, r1, r2, r3⟩ := (HH1.out wr HBQ.out).2.at_ hjl
          rw [ha2]
          obtain ⟨f, hf⟩ : ∃ f, ms[j] = f := ⟨_, rfl⟩
          rw [hf] at r0 r1 r2 r3
          have hfm : f ∈ ms := by rw [← hf]; exact List.getElem_mem hjl
          have hf64 := HFS.out f hfm
          have hnm : f.name.size ≤ 8 := by
            have h0 := HTOLD.out.sym f hfm
            unfold symOk at h0
            simp only [Bool.and_eq_true] at h0
            have h1 := ((nameOk_iff _).1 h0.1.1).1.2
            rw [Array.length_toList] at h1
            exact h1
          have HQN : Hid (S ++ ((ms.take (j + 1)).map fun s => strOfNums (symT s)) = (S ++ (ms.take j).map fun s => strOfNums (symT s)) ++ [strOfNums (symT f)]) := by
            show _ = _
            rw [List.take_add_one, List.getElem?_eq_getElem hjl, hf, List.map_append]
            simp
          obtain ⟨Q, hQ⟩ : ∃ Q, (S ++ (ms.take j).map fun s => strOfNums (symT s)) = Q := ⟨_, rfl⟩
          have hQl : Q.length ≤ 1000 := by
            rw [← hQ]
            simp only [List.length_append, List.length_map, List.length_take]
            omega
          rw [hQ] at hd HQN
          obtain ⟨w5, hw5⟩ : ∃ q, wr.alloc (.cells #[.string f.name, .int .i64 f.bind, .int .i64 f.loc, .int .i64 f.value] 58) = q := ⟨_, rfl⟩
          obtain ⟨fb, hfb⟩ : ∃ q, wr.heap.size = q := ⟨_, rfl⟩
          have hb5 : Below wr.heap.size wr w5 := by rw [← hw5]; exact alloc_below _ _
          have hx5 : Has w5 fb 58 #[.string f.name, .int .i64 f.bind, .int .i64 f.loc, .int .i64 f.value] := by rw [← hw5, ← hfb]; exact Has.new _ _ _
          obtain ⟨cs5, hdb⟩ := hd.out.db
          have HD5 := hidden (hdb.only hb5)
          have HW5 := hidden (hd.out.trans (DBW.only hdb hb5))
          have hag : f.agg = .agg #[.string f.name, .int .i64 f.bind, .int .i64 f.loc, .int .i64 f.value] := rfl
          have HPF := hidden (putSymbol_any w5 p p Q cs5 HD5.out (by omega) f (by omega) ⟨hf64.bind, hf64.loc, hf64.value⟩)
          rw [hag] at HPF
          have q0 : w5.cell? ⟨fb, 0, none⟩ = some (.string f.name) := hx5.cell 0
          have q1 : w5.cell? ⟨fb, 1, none⟩ = some (.int .i64 f.bind) := hx5.cell 1
          have q2 : w5.cell? ⟨fb, 2, none⟩ = some (.int .i64 f.loc) := hx5.cell 2
          have q3 : w5.cell? ⟨fb, 3, none⟩ = some (.int .i64 f.value) := hx5.cell 3
          clear hf hfm hjl hQ hb5 hx5 hdb hd hag hf64 HD5
          go_upto_region 17 with fail
          try rw [hw5]
          try rw [hfb]
          clear hw5 hfb r0 r1 r2 r3 ha2
          go_wp2_with fail
          refine HPF.out.mono ?_
          rintro e w6 ⟨rfl, hw6⟩
          have HW6 : Hid (DBW w2 p p (S ++ ((ms.take (j + 1)).map fun s => strOfNums (symT s))) [] w6) := by show DBW _ _ _ _ _ _; rw [HQN.out]; exact HW5.out.trans hw6
          clear HPF hw6 HW5 q0 q1 q2 q3 HQN
          go_wp2_with fail
          go_roundw
          case rel => exact ⟨j + 1, by go_num, by omega, HW6⟩
          case measure => simp [intOf]; omega
        · have hji : ¬ (j : Int) < (m : Int) := by omega
          have hd' := hd.out
          rw [List.take_of_length_le (by rw [← HM.out]; omega), ← HDALL.out] at hd'
          obtain ⟨cs, hdb⟩ := hd'.db
          obtain ⟨v, hv0, hrow⟩ := hdb.row
          have c0 : wr.cell? ⟨p, 0, none⟩ = some v := (hdb.sb.has.cell 0).trans hv0
          have HR : Hid (wr.ownsRow w.heap.size 9 1 v (dumpX (l.map Sp.s) ms).length ((dumpX (l.map Sp.s) ms).map Value.string)) := own_low hrow HWP.out
          have HBF := hidden (HB2.out.trans (hd'.below.mono HWP.out))
          clear hd hd' hdb hv0 hrow HDALL
          go_wp2_with fail
          go_ret
          exact ⟨v, rfl, HR.out, HBF.out⟩
end Go.Proofs.YtpfombelhajmlaaGreatDoor
namespace Go.Proofs.YtpfombelhajmlaaGreatDoor
open Go.RowKit
theorem wantDumpObject : WantDumpObject := fun w B a1 a2 c1 c2 l ms hT h1 h2 hB k1 k2 k3 k4 => by
  refine (dumpObject_any w B a1 a2 c1 c2 l.length ms.length l ms rfl rfl hT h1 h2 hB k1 k2 k3 k4).mono ?_
  rintro e w' ⟨v, rfl, ho, hb⟩
  generalize dumpX (l.map Sp.s) ms = S at ho ⊢
  rcases ho.2 with ⟨rfl, h0⟩ | ⟨g, cap, cur, rfl, hg0, hg, hn, hm, hs, ht⟩
  · refine ⟨⟨none, 0, by rw [h0], fun h => by omega, hb⟩, fun a n c e => ?_⟩
    injection e with e
    injection e with e1 e2 e3
    subst e2; subst e3
    exact ⟨Nat.le_refl _, Nat.zero_le _⟩
  · refine ⟨⟨some ⟨g, 0, none⟩, cap, rfl, fun _ => ⟨g, cur, rfl, hg0, hg, by omega, fun i s hi => ?_⟩, hb⟩, fun a n c e => ?_⟩
    · have h1 : (cur.toList.take (S.length * 1))[i]? = some (Value.string s) := by rw [ht, List.getElem?_map, hi]; rfl
      rw [List.getElem?_take] at h1
      split at h1
      · simpa using h1
      · cases h1
    · injection e with e
      injection e with e1 e2 e3
      subst e2; subst e3
      exact ⟨hn, hm⟩
end Go.Proofs.YtpfombelhajmlaaGreatDoor

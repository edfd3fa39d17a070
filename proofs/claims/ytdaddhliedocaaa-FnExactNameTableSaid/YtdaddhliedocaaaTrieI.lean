/-
  Contracts of the tree of ends of the program: newEndTree, add, isWhole.
-/
import Derived.Test.YtdaddhliedocaaaTrie
import Derived.Test.YtdaddhliedocaaaNames
import Derived.Test.YtdaddhliedocaaaIn
import Derived.Deep.QuietTactic
import Derived.BigQuiet
import Derived.RegionTactic
namespace Go.Proofs.Ytdaddhliedocaaa
open Go.RowKit Go.Maps

theorem newEndTree_any (w : World) :
    Calls Try.prog 52 #[] w fun e w' => e = .returned (.pointer (some ⟨w.heap.size + 1, 0, none⟩)) ∧ w' = newNode w := by
  have hmm := @run_makeMap Try.prog
  go_enter Try.func52, Try.ntmps52
  go_wp2
  go_ret
  exact ⟨rfl, rfl⟩
theorem drop_byte {s : ByteArray} {k : Nat} (h : k < s.size) : s.data.toList.drop k = s[k] :: s.data.toList.drop (k + 1) := by
  have hl : k < s.data.toList.length := by simpa using h
  rw [List.drop_eq_getElem_cons hl]
  rfl
set_option maxHeartbeats 1000000 in
theorem add_any (w : World) (B cnt root : Nat) (N : List UInt8 → Option Nat) (hT : Trie w B cnt N) (hroot : N [] = some root) (s : ByteArray) (hs : s.size ≤ 8) (hcnt : cnt + 8 ≤ maxLen) :
    Calls Try.prog 53 #[.pointer (some ⟨root, 0, none⟩), .string s] w fun e w' => e = .returned (.tuple #[]) ∧
      ∃ N', Trie w' B (cnt + 8) N' ∧ N' [] = some root ∧ (∀ q, (N' q).isSome = true ↔ (N q).isSome = true ∨ q <:+ s.data.toList) ∧ Below B w w' := by
  have hlen : s.data.toList.length = s.size := by simp
  have HLN := hidden hlen
  have HT := hidden hT
  have HR := hidden hroot
  clear hlen hT hroot
  go_enter Try.func53, Try.ntmps53
  go_wp2
  go_loopw [4, 0] (fun i t wr => ∃ (j b : Nat) (a : Int) (N' : List UInt8 → Option Nat), i = .int .i64 a ∧ a = (j : Int) - 1 ∧ j ≤ s.size ∧ t = .pointer (some ⟨b, 0, none⟩) ∧
      Hid (N' (s.data.toList.drop j) = some b) ∧ Hid (Trie wr B (cnt + (s.size - j)) N') ∧ Hid (∀ q x, N q = some x → N' q = some x) ∧
      Hid (∀ q, (N' q).isSome = true → (N q).isSome = true ∨ q <:+ s.data.toList) ∧ Below B w wr) (fun i _ _ => (intOf i + 1).toNat)
  case atStart =>
    refine ⟨s.size, root, _, N, rfl, by omega, Nat.le_refl _, rfl, hidden ?_, hidden (by rw [Nat.sub_self]; exact HT.out), hidden fun q x h => h, hidden fun q h => .inl h, Below.refl _ _⟩
    rw [List.drop_eq_nil_of_le (by rw [HLN.out]; omega)]; exact HR.out
  case round =>
    obtain ⟨j, b, a, N', rfl, ha, hj, rfl, hb, ht, hold, hnew, hbel⟩ := hrel
    rcases j with _ | k
    · obtain rfl : a = -1 := by omega
      have hN0 := hidden (show N' s.data.toList = some b by simpa using hb.out)
      clear ha hb
      go_wp2
      go_end0
      refine ⟨rfl, N', ht.out.more (by omega), hold.out _ _ HR.out, fun q => ⟨hnew.out q, ?_⟩, hbel⟩
      rintro (hq | ⟨u, hu⟩)
      · obtain ⟨x, hx⟩ := Option.isSome_iff_exists.1 hq
        rw [hold.out q x hx]; rfl
      · have : ∀ (u v : List UInt8), (N' (u ++ v)).isSome = true → (N' v).isSome = true := by
          intro u
          induction u with
          | nil => intro v h; exact h
          | cons d u ih => intro v h; exact ih v (ht.out.closed d _ h)
        exact this u q (by rw [hu, hN0.out]; rfl)
    · obtain rfl : a = (k : Int) := by omega
      have hk : k < s.size := by omega
      have hi : (k : Int) < (s.size : Int) := by omega
      obtain ⟨m, hm, look1, look0⟩ := ht.out.look hb.out
      have hdrop := drop_byte hk
      obtain ⟨p, hp⟩ : ∃ p, s.data.toList.drop (k + 1) = p := ⟨_, rfl⟩
      obtain ⟨c, hc⟩ : ∃ c, s[k] = c := ⟨_, rfl⟩
      rw [hp, hc] at hdrop
      have hb' := hb.out
      rw [hp] at hb'
      rw [hp] at look1 look0
      have hsuf : (c :: p) <:+ s.data.toList := ⟨s.data.toList.take k, by rw [← hdrop]; exact List.take_append_drop _ _⟩
      obtain ⟨x, hx⟩ : ∃ x : Int, ((c.toNat : Nat) : Int) = x := ⟨_, rfl⟩
      have hsx : ((s[k].toNat : Nat) : Int) = x := by rw [hc]; exact hx
      have HP := hidden hp
      have HB := hidden hb'
      have HD := hidden hdrop
      have HM := hidden hm
      have HX := hidden hx
      clear hp hc hx ha hb' hdrop hb hm
      rcases hnk : N' (c :: p) with _ | b'
      · have hl := look0 c hnk
        rw [HX.out] at hl
        have hm := HM.out
        clear look0 look1
        go_wp2
        go_quiet (fail)
        go_wp2_with (go_at_call 52; (refine (newEndTree_any _).mono ?_); rintro e w1 ⟨rfl, rfl⟩)
        have htd := ht.out.drewN nq
        have hszd : (wr.drewN nq).heap.size = wr.heap.size := rfl
        obtain ⟨w2, hrun, ht2, hb2⟩ := htd.put HB.out hnk (by omega) HM.out
        have hm1 : (newNode (wr.drewN nq)).cell? ⟨b, 0, none⟩ = some (.map (some m)) := by
          rw [World.cell?_of_block ((newNode_grown (wr.drewN nq)).block b (cell_lt (w := wr.drewN nq) HM.out) (by simp))]
          exact HM.out
        rw [HX.out, hszd] at hrun
        rw [hszd] at ht2
        clear hszd
        have HT2 := hidden ht2
        have hbel2 : Below B w w2 := by
          have h1 : Below B w (wr.drewN nq) := ⟨hbel.os, hbel.tape, hbel.output, hbel.size, hbel.block⟩
          exact h1.trans hb2
        clear ht2 htd hb2 hl hm
        go_region
        all_goals
          go_wp2
          go_roundw
          case rel =>
            refine ⟨k, wr.heap.size + 1, _, putN N' (c :: p) (wr.heap.size + 1), by go_num, rfl, by omega, rfl, hidden ?_, hidden ?_, hidden ?_, hidden ?_, hbel2⟩
            · rw [HD.out]; exact putN_same _ _ _
            · exact HT2.out.more (by omega)
            · exact fun q x hq => putN_old hnk (hold.out q x hq)
            · intro q hq
              by_cases e : q = c :: p
              · exact .inr (e ▸ hsuf)
              · rw [putN_other e] at hq; exact hnew.out q hq
          case measure => simp [intOf]
      · have hl := look1 c b' hnk
        rw [HX.out] at hl
        have hm := HM.out
        clear look0 look1
        go_wp2
        go_quiet (fail)
        go_wp2
        go_roundw
        case rel =>
          refine ⟨k, b', _, N', by go_num, rfl, by omega, rfl, hidden ?_, hidden ?_, hold, hnew, ⟨hbel.os, hbel.tape, hbel.output, hbel.size, hbel.block⟩⟩
          · rw [HD.out]; exact hnk
          · exact (ht.out.more (by omega)).drewN _
        case measure => simp [intOf]
set_option maxHeartbeats 1000000 in
/-- Of a text all of whose ends are there: whether no longer one is. -/
theorem isWhole_any (w : World) (B cnt root : Nat) (N : List UInt8 → Option Nat) (hT : Trie w B cnt N) (hroot : N [] = some root) (s : ByteArray) (hs : s.size ≤ 8) (hin : ∀ j, (N (s.data.toList.drop j)).isSome = true)
    (r : Bool) (hr : r = true ↔ ∀ c, N (c :: s.data.toList) = none) :
    Calls Try.prog 45 #[.pointer (some ⟨root, 0, none⟩), .string s] w fun e w' => e = .returned (.bool r) ∧ ∃ q, w' = w.drewN q := by
  have hlen : s.data.toList.length = s.size := by simp
  have HLN := hidden hlen
  have HT := hidden hT
  have HR := hidden hroot
  have HI := hidden hin
  have HB := hidden hr
  clear hlen hT hroot hin hr
  go_enter Try.func45, Try.ntmps45
  go_wp2
  go_loopw [5, 0] (fun i t wr => ∃ (j b : Nat) (a : Int), i = .int .i64 a ∧ a = (j : Int) - 1 ∧ j ≤ s.size ∧ t = .pointer (some ⟨b, 0, none⟩) ∧
      Hid (N (s.data.toList.drop j) = some b) ∧ Hid (Trie wr B cnt N) ∧ Hid (∃ g, wr = w.drewN g)) (fun i _ _ => (intOf i + 1).toNat)
  case atStart =>
    refine ⟨s.size, root, _, rfl, by omega, Nat.le_refl _, rfl, hidden ?_, HT, hidden ⟨0, rfl⟩⟩
    rw [List.drop_eq_nil_of_le (by rw [HLN.out]; omega)]; exact HR.out
  case round =>
    obtain ⟨j, b, a, rfl, ha, hj, rfl, hb, ht, hg⟩ := hrel
    rcases j with _ | k
    · obtain rfl : a = -1 := by omega
      have hN0 := hidden (show N s.data.toList = some b by simpa using hb.out)
      obtain ⟨m, D, nd, kids⟩ := ht.out.node _ _ hN0.out
      have hm : wr.cell? ⟨b, 0, none⟩ = some (.map (some m)) := nd.cell
      have hown : wr.ownsMap Try.prog 5 ptrElem m cnt D := nd.own
      obtain ⟨z, hz⟩ : ∃ z, Maps.size D = z := ⟨_, rfl⟩
      have HZ := hidden hz
      have hzr : ((z : Int) == 0) = r := by
        have h1 := kids.size
        rw [← HB.out, hz] at h1
        rw [Bool.eq_iff_iff, ← h1]; simp
      clear ha hb hz kids
      go_wp2_with (at_len; refine wpList_len_own _ rfl _ 67 rfl 5 54 Try.underlying67 ptrElem m cnt D rfl hown ?_; rw [HZ.out])
      go_ret
      exact ⟨rfl, hg.out⟩
    · obtain rfl : a = (k : Int) := by omega
      have hk : k < s.size := by omega
      have hi : (k : Int) < (s.size : Int) := by omega
      obtain ⟨m, hm, look1, _⟩ := ht.out.look hb.out
      have hdrop := drop_byte hk
      obtain ⟨p, hp⟩ : ∃ p, s.data.toList.drop (k + 1) = p := ⟨_, rfl⟩
      obtain ⟨c, hc⟩ : ∃ c, s[k] = c := ⟨_, rfl⟩
      rw [hp, hc] at hdrop
      rw [hp] at look1
      obtain ⟨x, hx⟩ : ∃ x : Int, ((c.toNat : Nat) : Int) = x := ⟨_, rfl⟩
      have hsx : ((s[k].toNat : Nat) : Int) = x := by rw [hc]; exact hx
      obtain ⟨b', hnk⟩ : ∃ b', N (c :: p) = some b' := by
        have := HI.out k
        rw [hdrop] at this
        exact Option.isSome_iff_exists.1 this
      have hl := look1 c b' hnk
      rw [hx] at hl
      have HD := hidden hdrop
      clear hp hc ha hb hdrop hx look1
      go_wp2
      go_quiet (fail)
      go_wp2
      go_roundw
      case rel =>
        refine ⟨k, b', _, by go_num, rfl, by omega, rfl, hidden ?_, ht.out.drewN _, hidden (by obtain ⟨g, e⟩ := hg.out; exact ⟨g + nq, by rw [e, World.drewN_drewN]⟩)⟩
        rw [HD.out]; exact hnk
      case measure => simp [intOf]

end Go.Proofs.Ytdaddhliedocaaa

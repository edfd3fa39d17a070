/-
  The laws' own copy, comparisons and marks of numbers.
-/
import Derived.Deep.Slices
import Derived.Deep.Fields
import Derived.ChangeSame
import Derived.ProofKit
import Derived.OpenShut
import Derived.ShutString
import Derived.Deep.RegionWith
import Derived.Test.YtjpclpjhigongaaMarks
import Derived.Test.YtjpclpjhigongaaCopO
import Derived.Test.YtjpclpjhigongaaWant3
import Derived.Test.YtjpclpjhigongaaWant4
import Derived.Test.YtjpclpjhigongaaMarkB
import Derived.Test.YtjpclpjhigongaaKepX
import Derived.Test.YtjpclpjhigongaaKepS
namespace Go.Proofs.Ytjpclpjhigongaa
open Go.RowKit

set_option maxHeartbeats 1000000 in
theorem toIntS_any (w : World) (B : Nat) (a : Option Addr) (c : Nat) (l : List Int) (h : Ints w .i64 B a l) (hB : B ≤ w.heap.size) (hlen : l.length ≤ 1048576) :
    Calls Try.prog 13 #[.slice a l.length c] w fun e w' => e = .returned (.slice (some ⟨w.heap.size, 0, none⟩) l.length l.length) ∧
      Has w' w.heap.size 3 (l.map (Value.int .i64)).toArray ∧ Below w.heap.size w w' := by
  obtain ⟨len, hL⟩ : ∃ n, n = l.length := ⟨_, rfl⟩
  have hst := Filled.start .i64 l (.int .i64 0)
  rw [← hL] at hlen hst ⊢
  have HL : Hid (len = l.length) := hL
  clear hL
  obtain ⟨g, hg⟩ : ∃ g, g = w.heap.size := ⟨_, rfl⟩
  have hmk := fun W => run_make_row' (P := Try.prog) 27 3 (.int .i64 0) 8 Try.underlying27 Try.info_int rfl .i64 .i64 len (by omega) (by omega) W
  have HF : Hid (Filled .i64 (madeCells #[.int .i64 0] len) l 0) := hst
  clear hst
  go_enter Try.func13, Try.ntmps13
  go_wp2
  go_loopw [4] (fun i wr => ∃ (k : Nat) (cs : Array Value), k ≤ len ∧ i = .int .i64 k ∧ Hid (Filled .i64 cs l k) ∧ Has wr w.heap.size 3 cs ∧ Below w.heap.size w wr) (fun i _ => len - (intOf i).toNat)
  case atStart => exact ⟨0, _, Nat.zero_le _, rfl, HF, Has.new _ _ _, (Below.refl _ _).alloc (Nat.le_refl _) _⟩
  case round =>
    obtain ⟨k, cs, hk, rfl, hf, hh, hb⟩ := hrel
    clear hmk HF
    by_cases hlt : k < len
    · have hll : k < l.length := by rw [← HL.out]; exact hlt
      obtain ⟨b1, o1, rfl, hbB, e1⟩ := (h.below (hb.mono hB)).at_ hll
      have hfn := hf.out.next hll
      have hcs : k < cs.size := by rw [hf.out.1]; exact hll
      obtain ⟨v, hv⟩ : ∃ v, cs[k]? = some v := ⟨_, Array.getElem?_eq_getElem hcs⟩
      have eo := hh.cell k
      rw [hv] at eo
      have ef := hh.free k
      have hput := hh.put k (.int .i64 (l.getD k 0))
      have hbp := hb.setCell (p := ⟨w.heap.size, k, none⟩) (Nat.le_refl _) (.int .i64 (l.getD k 0))
      have HN : Hid (Filled .i64 (cs.setIfInBounds k (.int .i64 (l.getD k 0))) l (k + 1)) := hfn
      obtain ⟨x, hx⟩ : ∃ x, l.getD k 0 = x := ⟨_, rfl⟩
      rw [hx] at e1 hput hbp HN
      clear hx h hf hfn hll hh hb hv hcs
      have hi : (k : Int) < (len : Int) := by omega
      go_wp2
      go_roundw
      case rel => exact ⟨k + 1, _, by omega, by go_num, HN, hput, hbp⟩
      case measure => simp [intOf]; omega
    · have hkl : k = l.length := by rw [← HL.out]; omega
      have hall := hf.out.all hkl
      have HA : Hid (cs = (l.map (Value.int .i64)).toArray) := hall
      clear hall hkl hf
      go_wp2
      go_ret
      exact ⟨rfl, by rw [← HA.out]; exact hh, hb⟩

set_option maxHeartbeats 1000000 in
theorem eqIntS_yes (w : World) (B1 B2 : Nat) (a1 a2 : Option Addr) (c1 c2 : Nat) (l : List Int) (h1 : Ints w .i64 B1 a1 l) (h2 : Ints w .i64 B2 a2 l) (hlen : l.length ≤ 9223372036854775807) :
    Calls Try.prog 15 #[.slice a1 l.length c1, .slice a2 l.length c2] w fun e w' => e = .returned (.bool true) ∧ ∃ n, w' = w.drewN n := by
  obtain ⟨len, hL⟩ : ∃ n, n = l.length := ⟨_, rfl⟩
  rw [← hL] at hlen ⊢
  have HL : Hid (len = l.length) := hL
  clear hL
  go_enter Try.func15, Try.ntmps15
  go_wp2
  go_loopw [5] (fun i wr => ∃ k : Nat, k ≤ len ∧ i = .int .i64 k ∧ ∃ n, wr = w.drewN n) (fun i _ => len - (intOf i).toNat)
  case atStart => exact ⟨0, Nat.zero_le _, rfl, 0, rfl⟩
  case round =>
    obtain ⟨k, hk, rfl, n, rfl⟩ := hrel
    by_cases hlt : k < len
    · have hll : k < l.length := by rw [← HL.out]; exact hlt
      obtain ⟨b1, o1, rfl, _, e1⟩ := h1.at_ hll
      obtain ⟨b2, o2, rfl, _, e2⟩ := h2.at_ hll
      obtain ⟨x, hx⟩ : ∃ x, l.getD k 0 = x := ⟨_, rfl⟩
      rw [hx] at e1 e2
      clear hx h1 h2 hll
      have hi : (k : Int) < (len : Int) := by omega
      go_wp2
      go_quiet (fail)
      go_wp2
      go_roundw
      case rel => exact ⟨k + 1, by omega, by go_num, _, rfl⟩
      case measure => simp [intOf]; omega
    · go_wp2
      go_ret
      exact ⟨rfl, _, rfl⟩
































theorem markIntS_nil (w : World) (a : Option Addr) (cap : Nat) (k : Int) :
    Calls Try.prog 17 #[.slice a 0 cap, .int .i64 k] w fun e w' => e = .returned (.int .i64 k) ∧ w = w' := by
  go_enter Try.func17, Try.ntmps17
  go_wp2
  go_rounds 1
  go_ret
  exact ⟨rfl, rfl⟩









/-- The first n bytes of a block of numbers are marked. -/
def FilledI (k : Int) (len : Nat) (c : Array Value) (n : Nat) : Prop := len ≤ c.size ∧ ∀ j, j < n → c[j]? = some (.int .i64 (k + (j : Nat)))
theorem FilledI.next {k : Int} {len : Nat} {c : Array Value} {n : Nat} (h : FilledI k len c n) (hn : n < c.size) : FilledI k len (c.setIfInBounds n (.int .i64 (k + (n : Nat)))) (n + 1) := by
  refine ⟨by simp [h.1], fun j hj => ?_⟩
  rw [Array.getElem?_setIfInBounds]
  by_cases e : n = j
  · subst e; simp [hn]
  · rw [if_neg e]; exact h.2 j (by omega)
set_option maxHeartbeats 1000000 in
theorem markIntS_wide (w : World) (g len cap : Nat) (cs : Array Value) (k : Int) (h : Has w g 3 cs) (hs : len ≤ cs.size) (hk : 0 ≤ k) (hb : k + len ≤ 4611686018427387904) :
    Calls Try.prog 17 #[.slice (some ⟨g, 0, none⟩) len cap, .int .i64 k] w fun e w' => e = .returned (.int .i64 (k + len)) ∧ (∃ c, Has w' g 3 c ∧ ∀ j, j < len → c[j]? = some (.int .i64 (k + (j : Nat)))) ∧ w.grownBy w' (some g) := by
  have HS : Hid (FilledI k len cs 0) := ⟨hs, fun j hj => by omega⟩
  clear hs
  go_enter Try.func17, Try.ntmps17
  go_wp2
  go_loopw [1, 5] (fun m i wr => ∃ (j : Nat) (c : Array Value) (x : Int), j ≤ len ∧ i = .int .i64 j ∧ m = .int .i64 x ∧ Hid (x = k + j) ∧ 0 ≤ x ∧ x ≤ 4611686018427387904 ∧ Hid (FilledI k len c j) ∧ Has wr g 3 c ∧ w.grownBy wr (some g))
    (fun _ i _ => len - (intOf i).toNat)
  case atStart => exact ⟨0, cs, k, by omega, rfl, rfl, hidden (by simp), hk, by omega, HS, h, World.grownBy.refl w _⟩
  case round =>
    obtain ⟨j, c, x, hj, rfl, rfl, hx, hx0, hx1, hf, hh, hg⟩ := hrel
    clear HS h
    by_cases hlt : j < len
    · have hcs : j < c.size := by have := hf.out.1; omega
      have hfn := hidden (hf.out.next hcs)
      obtain ⟨v, hv⟩ : ∃ v, c[j]? = some v := ⟨_, Array.getElem?_eq_getElem hcs⟩
      have eo := hh.cell j
      rw [hv] at eo
      have ef := hh.free j
      have hxm : (k + (j : Nat)) = x := by rw [← hx.out]
      have hput := hh.put j (.int .i64 x)
      have hgp := only_trans hg (only_put' (g := g) j (.int .i64 x))
      rw [hxm] at hfn
      have HX : Hid (x + 1 = k + ((j + 1 : Nat) : Int)) := by have := hx.out; show _ = _; omega
      have hx2 : x + 1 ≤ 4611686018427387904 := by have := hx.out; omega
      clear hf hv hcs hx hxm hh hg
      have hi : (j : Int) < (len : Int) := by omega
      go_wp2
      go_roundw
      case rel => exact ⟨j + 1, _, _, by omega, by go_num, rfl, HX, by omega, by omega, hfn, hput, hgp⟩
      case measure => simp [intOf]; omega
    · have hjl : j = len := by omega
      have hall := hf
      rw [hjl] at hall
      have HE : Hid (x = k + len) := by have := hx.out; show _ = _; omega
      have hlt' : ¬ (j : Int) < (len : Int) := by omega
      clear hf hx hjl
      go_wp2
      go_ret
      exact ⟨ret_int HE.out, ⟨c, hh, hall.out.2⟩, hg⟩





























theorem markI_wide (w : World) (g L cap : Nat) (a : Option Addr) (k : Int) (h : 0 < L → a = some ⟨g, 0, none⟩ ∧ ∃ cs, Has w g 3 cs ∧ L ≤ cs.size) (hk : 0 ≤ k) (hb : k + L ≤ 4611686018427387904) :
    Calls Try.prog 17 #[.slice a L cap, .int .i64 k] w fun e w' => e = .returned (.int .i64 (k + L)) ∧ (0 < L → ∃ c, Has w' g 3 c ∧ ∀ j, j < L → c[j]? = some (.int .i64 (k + (j : Nat)))) ∧ w.grownBy w' (some g) := by
  rcases Nat.eq_zero_or_pos L with rfl | hL
  · refine (markIntS_nil w a cap k).mono fun e w' ⟨he, hw⟩ => ?_
    subst hw
    exact ⟨by rw [he]; simp, fun h => by omega, World.grownBy.refl w _⟩
  · obtain ⟨rfl, cs, hh, hs⟩ := h hL
    exact (markIntS_wide w g L cap cs k hh hs hk hb).mono fun e w' ⟨he, hc, hg⟩ => ⟨he, fun _ => hc, hg⟩







end Go.Proofs.Ytjpclpjhigongaa
namespace Go.Proofs.Ytjpclpjhigongaa
open Go.ChangeShapes Go.WideShapes Go.ChangeAt Go.RowKit Go.Deep

theorem Try.cells_lsect : Try.prog.cellsOf 100 = 6 := by kernel_rfl
theorem Try.cells_lfix : Try.prog.cellsOf 125 = 4 := by kernel_rfl
theorem Try.cells_str : Try.prog.cellsOf 9 = 1 := by kernel_rfl
theorem Try.cells_int : Try.prog.cellsOf 3 = 1 := by kernel_rfl
theorem Try.cells_u8 : Try.prog.cellsOf 5 = 1 := by kernel_rfl
theorem Try.cells_u8s : Try.prog.cellsOf 22 = 1 := by kernel_rfl
theorem Try.cells_fixs : Try.prog.cellsOf 98 = 1 := by kernel_rfl
section
variable {H : Type} {enc : TypeId × Value → H} {W : World} {spare : Nat → Bool} {held : Bool}
theorem i64_ofWf {n : Int} (h : (Lit.int .i64 n).wf = true) : I64 n := by
  simp [Lit.wf, IntKind.min, IntKind.max, IntKind.signed, IntKind.bits] at h
  exact ⟨by omega, by omega⟩
set_option maxRecDepth 100000 in
/-- A fixup's cells, read. -/
theorem openFix {fuel base : Nat} {a : Addr} {cs : List Value} {x : DataW H × List MemPlace} (hc : W.cells? base a 4 = some cs) (h : DataW.trod enc Try.prog W base spare held fuel 125 cs = some x) :
    ∃ f : Fx, W.cell? (a.add 0) = some (.int .i64 f.pl) ∧ W.cell? (a.add 1) = some (.int .i64 f.kind) ∧ W.cell? (a.add 2) = some (.int .i64 f.to) ∧ W.cell? (a.add 3) = some (.int .i64 f.add) ∧ I64 f.pl ∧ I64 f.kind ∧ I64 f.to ∧ I64 f.add := by
  obtain ⟨_, hl, hat⟩ := World.cells?_some hc
  obtain ⟨xs, n, _, _, _, hxl, hg⟩ := DataW.trod_struct Try.underlying125 h
  have get : ∀ i, i < 4 → ∃ y, xs[i]? = some y := fun i hi => ⟨_, List.getElem?_eq_getElem (by rw [hxl]; exact hi)⟩
  match cs, hl with
  | [v0, v1, v2, v3], _ =>
    obtain ⟨y0, h0⟩ := get 0 (by omega)
    obtain ⟨y1, h1⟩ := get 1 (by omega)
    obtain ⟨y2, h2⟩ := get 2 (by omega)
    obtain ⟨y3, h3⟩ := get 3 (by omega)
    obtain ⟨n0, e0, _, k0⟩ := DataW.trod_int Try.underlying3 ((hg 0 _ rfl).trans h0)
    obtain ⟨n1, e1, _, k1⟩ := DataW.trod_int Try.underlying3 ((hg 1 _ rfl).trans h1)
    obtain ⟨n2, e2, _, k2⟩ := DataW.trod_int Try.underlying3 ((hg 2 _ rfl).trans h2)
    obtain ⟨n3, e3, _, k3⟩ := DataW.trod_int Try.underlying3 ((hg 3 _ rfl).trans h3)
    simp [Try.cells_int] at e0 e1 e2 e3
    subst e0 e1 e2 e3
    exact ⟨⟨n0, n1, n2, n3⟩, by rw [hat 0 (by omega)]; rfl, by rw [hat 1 (by omega)]; rfl, by rw [hat 2 (by omega)]; rfl, by rw [hat 3 (by omega)]; rfl, i64_ofWf k0, i64_ofWf k1, i64_ofWf k2, i64_ofWf k3⟩
set_option maxRecDepth 100000 in
/-- A row of fixups, read. -/
theorem openFixs {fuel base : Nat} {v : Value} {x : DataW H × List MemPlace} (h : DataW.trod enc Try.prog W base (fun _ => true) held fuel 98 [v] = some x) :
    ∃ (a : Option Addr) (fs : List Fx) (c : Nat), v = .slice a fs.length c ∧ fs.length ≤ maxLen ∧ Fixs W W.heap.size a fs ∧ ∀ f ∈ fs, I64 f.pl ∧ I64 f.kind ∧ I64 f.to ∧ I64 f.add := by
  rcases open_slice Try.underlying98 h with ⟨e, _⟩ | ⟨a, len, cap, m, n, D, Pl, e, _, hlc, hcm, hm, _, hi⟩
  · simp at e; subst e
    exact ⟨none, [], 0, rfl, by simp, Fixs.nil, by simp⟩
  · simp at e; subst e
    simp only [if_true] at hm
    subst hm
    have hx : ∀ i, ∃ f : Fx, i < len → W.cell? ((a.add (i * 4)).add 0) = some (.int .i64 f.pl) ∧ W.cell? ((a.add (i * 4)).add 1) = some (.int .i64 f.kind) ∧ W.cell? ((a.add (i * 4)).add 2) = some (.int .i64 f.to) ∧ W.cell? ((a.add (i * 4)).add 3) = some (.int .i64 f.add) ∧ I64 f.pl ∧ I64 f.kind ∧ I64 f.to ∧ I64 f.add := fun i => by
      by_cases hil : i < len
      · obtain ⟨cs, hc, ht⟩ := hi i (by omega)
        rw [Try.cells_lfix] at hc
        obtain ⟨f, hf⟩ := openFix hc ht
        exact ⟨f, fun _ => hf⟩
      · exact ⟨⟨0, 0, 0, 0⟩, fun h => absurd h hil⟩
    obtain ⟨F, hF⟩ : ∃ F : Nat → Fx, ∀ i, i < len → W.cell? ((a.add (i * 4)).add 0) = some (.int .i64 (F i).pl) ∧ W.cell? ((a.add (i * 4)).add 1) = some (.int .i64 (F i).kind) ∧ W.cell? ((a.add (i * 4)).add 2) = some (.int .i64 (F i).to) ∧ W.cell? ((a.add (i * 4)).add 3) = some (.int .i64 (F i).add) ∧ I64 (F i).pl ∧ I64 (F i).kind ∧ I64 (F i).to ∧ I64 (F i).add :=
      ⟨fun i => Classical.choose (hx i), fun i => Classical.choose_spec (hx i)⟩
    have hlen : ((List.range len).map F).length = len := by simp
    refine ⟨some a, (List.range len).map F, m, by rw [hlen], by rw [hlen]; omega, fun hn => ?_, fun f hf => ?_⟩
    · rw [hlen] at hn
      obtain ⟨b, off, spot⟩ := a
      have h0 := (hF 0 hn).1
      have hspot : spot = none := by
        have := World.cell?_spot h0
        simpa [Addr.add] using this
      subst hspot
      have hlt := lt_of_cell h0
      refine ⟨b, off, rfl, by simpa [Addr.add] using hlt, fun i f hf => ?_⟩
      have hil : i < len := by
        rcases Nat.lt_or_ge i len with h | h
        · exact h
        · rw [List.getElem?_eq_none (by rw [hlen]; exact h)] at hf; cases hf
      have e : F i = f := by
        rw [List.getElem?_map, List.getElem?_range hil] at hf
        simpa using hf
      subst e
      obtain ⟨k0, k1, k2, k3, _⟩ := hF i hil
      have ad : ∀ j, ((⟨b, off, none⟩ : Addr).add (i * 4)).add j = ⟨b, off + i * 4 + j, none⟩ := fun j => by
        have e1 : ∀ (o q : Nat), (⟨b, o, none⟩ : Addr).add q = ⟨b, o + q, none⟩ := fun o q => by unfold Addr.add; split <;> simp_all
        rw [e1, e1]
      rw [ad] at k0 k1 k2 k3
      exact ⟨k0, k1, k2, k3⟩
    · obtain ⟨i, hil, rfl⟩ := List.mem_map.1 hf
      exact (hF i (by simpa using hil)).2.2.2.2
set_option maxRecDepth 100000 in
/-- A section that came in, read. -/
theorem openSect {r : Reach} {b0 base : Nat} {v : Value} {d : DataW H} {p : List MemPlace} (hv : Value.okWide Try.prog W r b0 100 v) (h : DataW.Trod enc Try.prog W base (fun _ => true) held 100 v d p) :
    ∃ (s : Sx) (a1 : Option Addr) (c1 : Nat) (a2 : Option Addr) (c2 : Nat), v = s.agg a1 c1 a2 c2 ∧ Ints W .u8 W.heap.size a1 s.bytes ∧ Fixs W W.heap.size a2 s.fixs ∧ s.fits := by
  obtain ⟨cs, rfl, hsz⟩ := okWide_struct Try.underlying100 hv
  obtain ⟨fuel, hf⟩ := h
  obtain ⟨xs, n, _, _, _, hxl, hg⟩ := DataW.trod_struct Try.underlying100 hf
  have get : ∀ i, i < 6 → ∃ y, xs[i]? = some y := fun i hi => ⟨_, List.getElem?_eq_getElem (by rw [hxl]; exact hi)⟩
  rw [Try.cells_lsect] at hsz
  obtain ⟨l⟩ := cs
  match l, hsz with
  | [v0, v1, v2, v3, v4, v5], _ =>
    obtain ⟨y0, h0⟩ := get 0 (by omega)
    obtain ⟨y1, h1⟩ := get 1 (by omega)
    obtain ⟨y2, h2⟩ := get 2 (by omega)
    obtain ⟨y3, h3⟩ := get 3 (by omega)
    obtain ⟨y4, h4⟩ := get 4 (by omega)
    obtain ⟨y5, h5⟩ := get 5 (by omega)
    obtain ⟨nm, e0, _, k0⟩ := DataW.trod_string Try.underlying9 ((hg 0 _ rfl).trans h0)
    obtain ⟨n1, e1, _, k1⟩ := DataW.trod_int Try.underlying3 ((hg 1 _ rfl).trans h1)
    obtain ⟨n2, e2, _, k2⟩ := DataW.trod_int Try.underlying3 ((hg 2 _ rfl).trans h2)
    obtain ⟨n4, e4, _, k4⟩ := DataW.trod_int Try.underlying3 ((hg 4 _ rfl).trans h4)
    have t3 := (hg 3 _ rfl).trans h3
    have t5 := (hg 5 _ rfl).trans h5
    simp [Value.cells, Try.cells_int, Try.cells_str] at e0 e1 e2 e4
    simp [Value.cells, Try.cells_u8s, Try.cells_fixs] at t3 t5
    subst e0 e1 e2 e4
    obtain ⟨a2, fs, c2, rfl, hfl, hfx, hfi⟩ := openFixs t5
    obtain ⟨a1, bs, c1, rfl, hbl, hib⟩ : ∃ (a1 : Option Addr) (bs : List Int) (c1 : Nat), v3 = .slice a1 bs.length c1 ∧ bs.length ≤ 9223372036854775807 ∧ Ints W .u8 W.heap.size a1 bs := by
      rcases open_ints Try.underlying22 Try.underlying5 Try.cells_u8 t3 with ⟨hcs, _⟩ | ⟨x, l, c, zs, hcs, _, hl, hm, hz, _, hcell, hwz⟩
      · simp at hcs; subst hcs
        exact ⟨none, [], 0, rfl, by simp, ⟨by simp, fun h => by simp at h⟩⟩
      · simp at hcs; subst hcs
        obtain ⟨bs, hi, hbl, hb9⟩ := Ints.ofRow (w := W) (k := .u8) (a := some x) (len := l) (cap := c) (zs := zs) (.inr ⟨x, rfl, hl, hm, by simpa using hz, hcell, hwz⟩)
        exact ⟨some x, bs, c, by rw [hbl], by omega, hi⟩
    exact ⟨⟨nm, n1, n2, bs, n4, fs⟩, a1, c1, a2, c2, rfl, hib, hfx, ⟨k0, i64_ofWf k1, i64_ofWf k2, i64_ofWf k4, hbl, by unfold maxLen at hfl; omega, hfi⟩⟩
end
end Go.Proofs.Ytjpclpjhigongaa
namespace Go.Proofs.Ytjpclpjhigongaa
open Go.ChangeShapes Go.WideShapes Go.ChangeAt Go.RowKit Go.Deep

section
variable {H : Type} {enc : TypeId × Value → H} {W : World} {held : Bool}
set_option maxRecDepth 100000 in
/-- A slice of numbers that came in. -/
theorem openIntsV {r : Reach} {b0 base : Nat} {v : Value} {d : DataW H} {p : List MemPlace} (hv : Value.okWide Try.prog W r b0 27 v) (h : DataW.Trod enc Try.prog W base (fun _ => true) held 27 v d p) :
    ∃ (a : Option Addr) (c n : Nat) (l : List Int), v = .slice a n c ∧ n = l.length ∧ Ints W .i64 W.heap.size a l ∧ n ≤ 9223372036854775807 := by
  obtain ⟨a0, len0, cap0, rfl⟩ := okWide_slice Try.underlying27 hv
  obtain ⟨fuel, hf⟩ := h
  rcases open_ints Try.underlying27 Try.underlying3 Try.cells_int hf with ⟨hcs, _⟩ | ⟨x, l, c, zs, hcs, _, hl, hm, hz, _, hcell, hwz⟩
  · simp [Value.cells] at hcs
    obtain ⟨rfl, rfl, rfl⟩ := hcs
    exact ⟨none, 0, 0, [], rfl, rfl, ⟨by simp, fun h => by simp at h⟩, by omega⟩
  · simp [Value.cells] at hcs
    obtain ⟨rfl, rfl, rfl⟩ := hcs
    obtain ⟨bs, hi, hbl, hb9⟩ := Ints.ofRow (w := W) (k := .i64) (a := some x) (len := len0) (cap := cap0) (zs := zs) (.inr ⟨x, rfl, hl, hm, by simpa using hz, hcell, hwz⟩)
    exact ⟨some x, cap0, len0, bs, rfl, hbl.symm, hi, by unfold maxLen at hm; omega⟩
end
end Go.Proofs.Ytjpclpjhigongaa
namespace Go.Proofs.Ytjpclpjhigongaa
open Go.ChangeShapes Go.WideShapes Go.ChangeAt Go.RowKit Go.Deep

theorem Try.cells_lsym : Try.prog.cellsOf 102 = 4 := by kernel_rfl
theorem Try.cells_lobj : Try.prog.cellsOf 39 = 2 := by kernel_rfl
theorem Try.cells_secs : Try.prog.cellsOf 36 = 1 := by kernel_rfl
theorem Try.cells_syms : Try.prog.cellsOf 37 = 1 := by kernel_rfl
section
variable {H : Type} {enc : TypeId × Value → H} {W : World} {held : Bool}
set_option maxRecDepth 100000 in
/-- A section's cells, read. -/
theorem openSectL {fuel base : Nat} {cs : List Value} {x : DataW H × List MemPlace} (hsz : cs.length = 6) (hf : DataW.trod enc Try.prog W base (fun _ => true) held fuel 100 cs = some x) :
    ∃ y : Sp, cs = [.string y.s.name, .int .i64 y.s.kind, .int .i64 y.s.align, .slice y.a1 y.s.bytes.length y.c1, .int .i64 y.s.size, .slice y.a2 y.s.fixs.length y.c2] ∧ Ints W .u8 W.heap.size y.a1 y.s.bytes ∧ Fixs W W.heap.size y.a2 y.s.fixs ∧ y.s.fits := by
  obtain ⟨xs, n, _, _, _, hxl, hg⟩ := DataW.trod_struct Try.underlying100 hf
  have get : ∀ i, i < 6 → ∃ y, xs[i]? = some y := fun i hi => ⟨_, List.getElem?_eq_getElem (by rw [hxl]; exact hi)⟩
  match cs, hsz with
  | [v0, v1, v2, v3, v4, v5], _ =>
    obtain ⟨y0, h0⟩ := get 0 (by omega)
    obtain ⟨y1, h1⟩ := get 1 (by omega)
    obtain ⟨y2, h2⟩ := get 2 (by omega)
    obtain ⟨y3, h3⟩ := get 3 (by omega)
    obtain ⟨y4, h4⟩ := get 4 (by omega)
    obtain ⟨y5, h5⟩ := get 5 (by omega)
    obtain ⟨nm, e0, _, k0⟩ := DataW.trod_string Try.underlying9 ((hg 0 _ rfl).trans h0)
    obtain ⟨n1, e1, _, k1⟩ := DataW.trod_int Try.underlying3 ((hg 1 _ rfl).trans h1)
    obtain ⟨n2, e2, _, k2⟩ := DataW.trod_int Try.underlying3 ((hg 2 _ rfl).trans h2)
    obtain ⟨n4, e4, _, k4⟩ := DataW.trod_int Try.underlying3 ((hg 4 _ rfl).trans h4)
    have t3 := (hg 3 _ rfl).trans h3
    have t5 := (hg 5 _ rfl).trans h5
    simp [Try.cells_int, Try.cells_str] at e0 e1 e2 e4
    simp [Try.cells_u8s, Try.cells_fixs] at t3 t5
    subst e0 e1 e2 e4
    obtain ⟨a2, fs, c2, rfl, hfl, hfx, hfi⟩ := openFixs t5
    obtain ⟨a1, bs, c1, rfl, hbl, hib⟩ : ∃ (a1 : Option Addr) (bs : List Int) (c1 : Nat), v3 = .slice a1 bs.length c1 ∧ bs.length ≤ 9223372036854775807 ∧ Ints W .u8 W.heap.size a1 bs := by
      rcases open_ints Try.underlying22 Try.underlying5 Try.cells_u8 t3 with ⟨hcs, _⟩ | ⟨x, l, c, zs, hcs, _, hl, hm, hz, _, hcell, hwz⟩
      · simp at hcs; subst hcs
        exact ⟨none, [], 0, rfl, by simp, ⟨by simp, fun h => by simp at h⟩⟩
      · simp at hcs; subst hcs
        obtain ⟨bs, hi, hbl, hb9⟩ := Ints.ofRow (w := W) (k := .u8) (a := some x) (len := l) (cap := c) (zs := zs) (.inr ⟨x, rfl, hl, hm, by simpa using hz, hcell, hwz⟩)
        exact ⟨some x, bs, c, by rw [hbl], by omega, hi⟩
    exact ⟨⟨⟨nm, n1, n2, bs, n4, fs⟩, a1, c1, a2, c2⟩, rfl, hib, hfx, ⟨k0, i64_ofWf k1, i64_ofWf k2, i64_ofWf k4, hbl, by unfold maxLen at hfl; omega, hfi⟩⟩
set_option maxRecDepth 100000 in
/-- A symbol's cells, read. -/
theorem openSymL {fuel base : Nat} {cs : List Value} {x : DataW H × List MemPlace} (hsz : cs.length = 4) (hf : DataW.trod enc Try.prog W base (fun _ => true) held fuel 102 cs = some x) :
    ∃ m : Sm, cs = [.string m.name, .int .i64 m.bind, .int .i64 m.loc, .int .i64 m.value] ∧ m.fits := by
  obtain ⟨xs, n, _, _, _, hxl, hg⟩ := DataW.trod_struct Try.underlying102 hf
  have get : ∀ i, i < 4 → ∃ y, xs[i]? = some y := fun i hi => ⟨_, List.getElem?_eq_getElem (by rw [hxl]; exact hi)⟩
  match cs, hsz with
  | [v0, v1, v2, v3], _ =>
    obtain ⟨y0, h0⟩ := get 0 (by omega)
    obtain ⟨y1, h1⟩ := get 1 (by omega)
    obtain ⟨y2, h2⟩ := get 2 (by omega)
    obtain ⟨y3, h3⟩ := get 3 (by omega)
    obtain ⟨nm, e0, _, k0⟩ := DataW.trod_string Try.underlying9 ((hg 0 _ rfl).trans h0)
    obtain ⟨n1, e1, _, k1⟩ := DataW.trod_int Try.underlying3 ((hg 1 _ rfl).trans h1)
    obtain ⟨n2, e2, _, k2⟩ := DataW.trod_int Try.underlying3 ((hg 2 _ rfl).trans h2)
    obtain ⟨n3, e3, _, k3⟩ := DataW.trod_int Try.underlying3 ((hg 3 _ rfl).trans h3)
    simp [Try.cells_int, Try.cells_str] at e0 e1 e2 e3
    subst e0 e1 e2 e3
    exact ⟨⟨nm, n1, n2, n3⟩, rfl, ⟨k0, i64_ofWf k1, i64_ofWf k2, i64_ofWf k3⟩⟩
theorem add_add (b off i j : Nat) : ((⟨b, off, none⟩ : Addr).add i).add j = ⟨b, off + i + j, none⟩ := by
  have e1 : ∀ (o q : Nat), (⟨b, o, none⟩ : Addr).add q = ⟨b, o + q, none⟩ := fun o q => by unfold Addr.add; split <;> simp_all
  rw [e1, e1]
set_option maxRecDepth 100000 in
/-- A row of secs, read. -/
theorem openSecs {fuel base : Nat} {v : Value} {x : DataW H × List MemPlace} (h : DataW.trod enc Try.prog W base (fun _ => true) held fuel 36 [v] = some x) :
    ∃ (a : Option Addr) (c : Nat) (l : List Sp), v = .slice a l.length c ∧ l.length ≤ 9223372036854775807 ∧ Sects W W.heap.size a l ∧ ∀ y ∈ l, y.s.fits := by
  rcases open_slice Try.underlying36 h with ⟨e, _⟩ | ⟨a, len, cap, m, n, D, Pl, e, _, hlc, hcm, hm, _, hi⟩
  · simp at e; subst e
    exact ⟨none, 0, [], rfl, by simp, Sects.nil, by simp⟩
  · simp at e; subst e
    simp only [if_true] at hm
    subst hm
    have hx : ∀ i, ∃ y : Sp, i < len → W.cell? ((a.add (i * 6)).add 0) = some (.string y.s.name) ∧ W.cell? ((a.add (i * 6)).add 1) = some (.int .i64 y.s.kind) ∧ W.cell? ((a.add (i * 6)).add 2) = some (.int .i64 y.s.align) ∧ W.cell? ((a.add (i * 6)).add 3) = some (.slice y.a1 y.s.bytes.length y.c1) ∧ W.cell? ((a.add (i * 6)).add 4) = some (.int .i64 y.s.size) ∧ W.cell? ((a.add (i * 6)).add 5) = some (.slice y.a2 y.s.fixs.length y.c2) ∧ Ints W .u8 W.heap.size y.a1 y.s.bytes ∧ Fixs W W.heap.size y.a2 y.s.fixs ∧ y.s.fits := fun i => by
      by_cases hil : i < len
      · obtain ⟨cs, hc, ht⟩ := hi i (by omega)
        rw [Try.cells_lsect] at hc
        obtain ⟨_, hl, hat⟩ := World.cells?_some hc
        obtain ⟨y, hy⟩ := openSectL hl ht
        refine ⟨y, fun _ => ?_⟩
        obtain ⟨rfl, h1, h2, h3⟩ := hy
        exact ⟨by rw [hat 0 (by omega)]; rfl, by rw [hat 1 (by omega)]; rfl, by rw [hat 2 (by omega)]; rfl, by rw [hat 3 (by omega)]; rfl, by rw [hat 4 (by omega)]; rfl, by rw [hat 5 (by omega)]; rfl, h1, h2, h3⟩
      · exact ⟨⟨⟨⟨#[]⟩, 0, 0, [], 0, []⟩, none, 0, none, 0⟩, fun h => absurd h hil⟩
    obtain ⟨F, hF⟩ : ∃ F : Nat → Sp, ∀ i, i < len → W.cell? ((a.add (i * 6)).add 0) = some (.string (F i).s.name) ∧ W.cell? ((a.add (i * 6)).add 1) = some (.int .i64 (F i).s.kind) ∧ W.cell? ((a.add (i * 6)).add 2) = some (.int .i64 (F i).s.align) ∧ W.cell? ((a.add (i * 6)).add 3) = some (.slice (F i).a1 (F i).s.bytes.length (F i).c1) ∧ W.cell? ((a.add (i * 6)).add 4) = some (.int .i64 (F i).s.size) ∧ W.cell? ((a.add (i * 6)).add 5) = some (.slice (F i).a2 (F i).s.fixs.length (F i).c2) ∧ Ints W .u8 W.heap.size (F i).a1 (F i).s.bytes ∧ Fixs W W.heap.size (F i).a2 (F i).s.fixs ∧ (F i).s.fits :=
      ⟨fun i => Classical.choose (hx i), fun i => Classical.choose_spec (hx i)⟩
    have hlen : ((List.range len).map F).length = len := by simp
    have row : 0 < len → ∃ b off, a = ⟨b, off, none⟩ ∧ b < W.heap.size := fun hn => by
      obtain ⟨b, off, spot⟩ := a
      have h0 := (hF 0 hn).1
      have hspot : spot = none := by
        have := World.cell?_spot h0
        simpa [Addr.add] using this
      subst hspot
      have hlt := lt_of_cell h0
      exact ⟨b, off, rfl, by simpa [Addr.add] using hlt⟩
    have back : ∀ i y, ((List.range len).map F)[i]? = some y → i < len ∧ F i = y := fun i y hf => by
      have hil : i < len := by
        rcases Nat.lt_or_ge i len with h | h
        · exact h
        · rw [List.getElem?_eq_none (by rw [hlen]; exact h)] at hf; cases hf
      rw [List.getElem?_map, List.getElem?_range hil] at hf
      exact ⟨hil, by simpa using hf⟩
    refine ⟨some a, m, (List.range len).map F, by rw [hlen], by rw [hlen]; unfold maxLen at hcm; omega, ⟨fun hn => ?_, fun y hy => ?_, fun y hy => ?_⟩, fun y hy => ?_⟩
    · rw [hlen] at hn
      obtain ⟨b, off, rfl, hlt⟩ := row hn
      refine ⟨b, off, rfl, hlt, fun i y hf => ?_⟩
      obtain ⟨hil, rfl⟩ := back i y hf
      obtain ⟨k0, k1, k2, k3, k4, k5, _⟩ := hF i hil
      rw [add_add] at k0 k1 k2 k3 k4 k5
      exact ⟨k0, k1, k2, k3, k4, k5⟩
    · obtain ⟨i, hil, rfl⟩ := List.mem_map.1 hy
      exact (hF i (by simpa using hil)).2.2.2.2.2.2.1
    · obtain ⟨i, hil, rfl⟩ := List.mem_map.1 hy
      exact (hF i (by simpa using hil)).2.2.2.2.2.2.2.1
    · obtain ⟨i, hil, rfl⟩ := List.mem_map.1 hy
      exact (hF i (by simpa using hil)).2.2.2.2.2.2.2.2
set_option maxRecDepth 100000 in
/-- A row of syms, read. -/
theorem openSyms {fuel base : Nat} {v : Value} {x : DataW H × List MemPlace} (h : DataW.trod enc Try.prog W base (fun _ => true) held fuel 37 [v] = some x) :
    ∃ (a : Option Addr) (c : Nat) (l : List Sm), v = .slice a l.length c ∧ l.length ≤ 9223372036854775807 ∧ Syms W W.heap.size a l ∧ ∀ y ∈ l, y.fits := by
  rcases open_slice Try.underlying37 h with ⟨e, _⟩ | ⟨a, len, cap, m, n, D, Pl, e, _, hlc, hcm, hm, _, hi⟩
  · simp at e; subst e
    exact ⟨none, 0, [], rfl, by simp, Syms.nil, by simp⟩
  · simp at e; subst e
    simp only [if_true] at hm
    subst hm
    have hx : ∀ i, ∃ y : Sm, i < len → W.cell? ((a.add (i * 4)).add 0) = some (.string y.name) ∧ W.cell? ((a.add (i * 4)).add 1) = some (.int .i64 y.bind) ∧ W.cell? ((a.add (i * 4)).add 2) = some (.int .i64 y.loc) ∧ W.cell? ((a.add (i * 4)).add 3) = some (.int .i64 y.value) ∧ y.fits := fun i => by
      by_cases hil : i < len
      · obtain ⟨cs, hc, ht⟩ := hi i (by omega)
        rw [Try.cells_lsym] at hc
        obtain ⟨_, hl, hat⟩ := World.cells?_some hc
        obtain ⟨y, hy⟩ := openSymL hl ht
        refine ⟨y, fun _ => ?_⟩
        obtain ⟨rfl, h1⟩ := hy
        exact ⟨by rw [hat 0 (by omega)]; rfl, by rw [hat 1 (by omega)]; rfl, by rw [hat 2 (by omega)]; rfl, by rw [hat 3 (by omega)]; rfl, h1⟩
      · exact ⟨⟨⟨#[]⟩, 0, 0, 0⟩, fun h => absurd h hil⟩
    obtain ⟨F, hF⟩ : ∃ F : Nat → Sm, ∀ i, i < len → W.cell? ((a.add (i * 4)).add 0) = some (.string (F i).name) ∧ W.cell? ((a.add (i * 4)).add 1) = some (.int .i64 (F i).bind) ∧ W.cell? ((a.add (i * 4)).add 2) = some (.int .i64 (F i).loc) ∧ W.cell? ((a.add (i * 4)).add 3) = some (.int .i64 (F i).value) ∧ (F i).fits :=
      ⟨fun i => Classical.choose (hx i), fun i => Classical.choose_spec (hx i)⟩
    have hlen : ((List.range len).map F).length = len := by simp
    have row : 0 < len → ∃ b off, a = ⟨b, off, none⟩ ∧ b < W.heap.size := fun hn => by
      obtain ⟨b, off, spot⟩ := a
      have h0 := (hF 0 hn).1
      have hspot : spot = none := by
        have := World.cell?_spot h0
        simpa [Addr.add] using this
      subst hspot
      have hlt := lt_of_cell h0
      exact ⟨b, off, rfl, by simpa [Addr.add] using hlt⟩
    have back : ∀ i y, ((List.range len).map F)[i]? = some y → i < len ∧ F i = y := fun i y hf => by
      have hil : i < len := by
        rcases Nat.lt_or_ge i len with h | h
        · exact h
        · rw [List.getElem?_eq_none (by rw [hlen]; exact h)] at hf; cases hf
      rw [List.getElem?_map, List.getElem?_range hil] at hf
      exact ⟨hil, by simpa using hf⟩
    refine ⟨some a, m, (List.range len).map F, by rw [hlen], by rw [hlen]; unfold maxLen at hcm; omega, fun hn => ?_, fun y hy => ?_⟩
    · rw [hlen] at hn
      obtain ⟨b, off, rfl, hlt⟩ := row hn
      refine ⟨b, off, rfl, hlt, fun i y hf => ?_⟩
      obtain ⟨hil, rfl⟩ := back i y hf
      obtain ⟨k0, k1, k2, k3, _⟩ := hF i hil
      rw [add_add] at k0 k1 k2 k3
      exact ⟨k0, k1, k2, k3⟩
    · obtain ⟨i, hil, rfl⟩ := List.mem_map.1 hy
      exact (hF i (by simpa using hil)).2.2.2.2
set_option maxRecDepth 100000 in
/-- Sections that came in. -/
theorem openSectsV {r : Reach} {b0 base : Nat} {v : Value} {d : DataW H} {p : List MemPlace} (hv : Value.okWide Try.prog W r b0 36 v) (h : DataW.Trod enc Try.prog W base (fun _ => true) held 36 v d p) :
    ∃ (a : Option Addr) (c n : Nat) (l : List Sp), v = .slice a n c ∧ n = l.length ∧ Sects W W.heap.size a l ∧ n ≤ 9223372036854775807 ∧ ∀ y ∈ l, y.s.fits := by
  obtain ⟨a, len, cap, rfl⟩ := okWide_slice Try.underlying36 hv
  obtain ⟨fuel, hf⟩ := h
  obtain ⟨a', c, l, e, h1, h2, h3⟩ := openSecs hf
  injection e with e1 e2 e3
  subst e1; subst e2; subst e3
  exact ⟨a, cap, l.length, l, rfl, rfl, h2, h1, h3⟩
set_option maxRecDepth 100000 in
/-- A symbol that came in. -/
theorem openSymV {r : Reach} {b0 base : Nat} {v : Value} {d : DataW H} {p : List MemPlace} (hv : Value.okWide Try.prog W r b0 102 v) (h : DataW.Trod enc Try.prog W base (fun _ => true) held 102 v d p) :
    ∃ s : Sm, v = s.agg ∧ s.fits := by
  obtain ⟨cs, rfl, hsz⟩ := okWide_struct Try.underlying102 hv
  obtain ⟨fuel, hf⟩ := h
  rw [Try.cells_lsym] at hsz
  obtain ⟨l⟩ := cs
  obtain ⟨m, e, hm⟩ := openSymL (cs := l) hsz hf
  subst e
  exact ⟨m, rfl, hm⟩
set_option maxRecDepth 100000 in
/-- An object that came in. -/
theorem openObjV {r : Reach} {b0 base : Nat} {v : Value} {d : DataW H} {p : List MemPlace} (hv : Value.okWide Try.prog W r b0 39 v) (h : DataW.Trod enc Try.prog W base (fun _ => true) held 39 v d p) :
    ∃ (a1 a2 : Option Addr) (c1 c2 n m : Nat) (l : List Sp) (ms : List Sm), v = .agg #[.slice a1 n c1, .slice a2 m c2] ∧ n = l.length ∧ m = ms.length ∧ Sects W W.heap.size a1 l ∧ Syms W W.heap.size a2 ms ∧ n ≤ 9223372036854775807 ∧ m ≤ 9223372036854775807 ∧ (∀ y ∈ l, y.s.fits) ∧ ∀ x ∈ ms, x.fits := by
  obtain ⟨cs, rfl, hsz⟩ := okWide_struct Try.underlying39 hv
  obtain ⟨fuel, hf⟩ := h
  obtain ⟨xs, n, _, _, _, hxl, hg⟩ := DataW.trod_struct Try.underlying39 hf
  have get : ∀ i, i < 2 → ∃ y, xs[i]? = some y := fun i hi => ⟨_, List.getElem?_eq_getElem (by rw [hxl]; exact hi)⟩
  rw [Try.cells_lobj] at hsz
  obtain ⟨l⟩ := cs
  match l, hsz with
  | [v0, v1], _ =>
    obtain ⟨y0, h0⟩ := get 0 (by omega)
    obtain ⟨y1, h1⟩ := get 1 (by omega)
    have t0 := (hg 0 _ rfl).trans h0
    have t1 := (hg 1 _ rfl).trans h1
    simp [Value.cells, Try.cells_secs, Try.cells_syms] at t0 t1
    obtain ⟨a1, c1, l, rfl, k1, k2, k3⟩ := openSecs t0
    obtain ⟨a2, c2, ms, rfl, q1, q2, q3⟩ := openSyms t1
    exact ⟨a1, a2, c1, c2, l.length, ms.length, l, ms, rfl, rfl, rfl, k2, q2, k1, q1, k3, q3⟩
end
end Go.Proofs.Ytjpclpjhigongaa
namespace Go.Proofs.Ytjpclpjhigongaa
open Go.RowKit

theorem fixTo_lens {t : Int → Int} {s : Sx} (h : s.lens) : (fixTo t s).lens := by
  unfold fixTo Sx.lens
  simp only [List.length_map]
  exact h
theorem keepR_few {kp : List Bool} {ss : List Sx} {ms : List Sm} {A : List Sx × List Sm} {b : Bool} (h : keepR kp ss ms = (A, b)) (hk : kp.length = ss.length) (hl : ∀ s ∈ ss, s.lens) : FewA A A.1.length A.2.length := by
  unfold keepR at h
  split at h
  · rename_i hc
    rw [Bool.and_eq_true] at hc
    obtain ⟨h1, h2⟩ := hc
    have hv := keep_valid h1 hk (by simpa using h2)
    injection h with h _
    subst h
    obtain ⟨q1, q2, q3⟩ := objOk_parts hv
    refine ⟨q1, q2, fun s hs => ⟨?_, (q3 s hs).1, (q3 s hs).2.1⟩⟩
    obtain ⟨k, _, hk2⟩ := keptS_mem _ _ s hs
    obtain ⟨s', hs', rfl⟩ := List.mem_map.1 (List.mem_of_getElem? hk2)
    exact fixTo_lens (hl s' hs')
  · injection h with h _
    subst h
    exact ⟨by simp, by simp, by simp⟩
theorem vals_hasI {W : World} {x : Nat} {K : List Int} (h : Has W x 3 (K.map (Value.int .i64)).toArray) : Vals W W.heap.size (some ⟨x, 0, none⟩) (K.map (Value.int .i64)) := fun _ =>
  ⟨x, 0, rfl, h.lt, fun i u hi => by rw [Nat.zero_add, h.cell i]; simpa using hi⟩
theorem ints_hasI {W : World} {x : Nat} {K : List Int} (hwf : ∀ z ∈ K, (Lit.int .i64 z).wf = true) (h : Has W x 3 (K.map (Value.int .i64)).toArray) : Ints W .i64 W.heap.size (some ⟨x, 0, none⟩) K :=
  ⟨hwf, fun _ => ⟨x, 0, rfl, h.lt, fun i hi => by
    rw [Nat.zero_add, h.cell i]
    simp [List.getD, List.getElem?_eq_getElem hi]⟩⟩
theorem eqI_yes (W : World) (k1 k2 nk : Nat) (K : List Int) (hkn : nk = K.length) (hwf : ∀ z ∈ K, (Lit.int .i64 z).wf = true) (h1 : Has W k1 3 (K.map (Value.int .i64)).toArray) (h2 : Has W k2 3 (K.map (Value.int .i64)).toArray) (hl : nk ≤ 1048576) :
    Calls Try.prog 15 #[.slice (some ⟨k1, 0, none⟩) nk nk, .slice (some ⟨k2, 0, none⟩) nk nk] W fun e w' => e = .returned (.bool true) ∧ ∃ n, w' = W.drewN n := by
  have := eqIntS_yes W W.heap.size W.heap.size (some ⟨k1, 0, none⟩) (some ⟨k2, 0, none⟩) nk nk K (ints_hasI hwf h1) (ints_hasI hwf h2) (by omega)
  rwa [← hkn] at this
set_option maxRecDepth 100000 in
set_option maxHeartbeats 8000000 in
theorem law_ExactKeepSections (w : World) (a1 a2 : Option Addr) (c1 c2 n m : Nat) (l : List Sp) (ms : List Sm) (hn : n = l.length) (hm : m = ms.length) (h1 : Sects w w.heap.size a1 l) (h2 : Syms w w.heap.size a2 ms) (hlen : n ≤ 9223372036854775807) (hlem : m ≤ 9223372036854775807)
    (hl : ∀ y ∈ l, y.s.fits) (hs : ∀ x ∈ ms, x.fits) (K : List Int) (ka : Option Addr) (nk kc : Nat) (hkn : nk = K.length) (hkv : Ints w .i64 w.heap.size ka K) (hkm : nk ≤ 9223372036854775807) :
    Calls Try.prog 4 #[.agg #[.slice a1 n c1, .slice a2 m c2], .slice ka nk kc] w fun e w' => e = .returned (.bool true) ∧ Below w.heap.size w w' := by
  have HSZ := hidden (fun (W : World) (hB : Below w.heap.size w W) => szObject_any W w.heap.size a1 a2 c1 c2 n m l ms hn hm (h1.below hB) (h2.below hB) hB.size hlen hlem (fun y hy => (hl y hy).lens) (fun x hx => (hs x hx).name) 1048576 (by omega) (by omega))
  have HTO := hidden (fun (W : World) (hB : Below w.heap.size w W) (k1 : n ≤ 1048576) (k2 : m ≤ 1048576) (k3 : ∀ y ∈ l, y.s.short) => toObject_any W w.heap.size a1 a2 c1 c2 n m l ms hn hm (h1.below hB) (h2.below hB) hB.size k1 k2 k3)
  have HTS : Hid (∀ (W : World), Below w.heap.size w W → nk ≤ 1048576 → Calls Try.prog 13 #[.slice ka nk kc] W fun e w' => e = .returned (.slice (some ⟨W.heap.size, 0, none⟩) nk nk) ∧ Has w' W.heap.size 3 (K.map (Value.int .i64)).toArray ∧ Below W.heap.size W w') := fun W hB k1 => by
    have := toIntS_any W w.heap.size ka kc K (hkv.below hB) hB.size (by rw [← hkn]; exact k1)
    rwa [← hkn] at this
  have HKN := hidden hkn
  have hwf := hkv.1
  have HWF := hidden hwf
  obtain ⟨AB, hAB⟩ : ∃ AB, keepR (marksQ n K) (l.map Sp.s) ms = AB := ⟨_, rfl⟩
  obtain ⟨A, okb⟩ := AB
  have hA := hAB
  have HFW := hidden (keepR_few hAB (by rw [marksQ_length, hn, List.length_map]) (fun s hs => by obtain ⟨y, hy, rfl⟩ := List.mem_map.1 hs; exact (hl y hy).lens))
  obtain ⟨N, hN⟩ : ∃ q, A.1.length = q := ⟨_, rfl⟩
  obtain ⟨M, hM⟩ : ∃ q, A.2.length = q := ⟨_, rfl⟩
  have HNE := hidden hN
  have HME := hidden hM
  rw [hN, hM] at HFW
  have HSP : Hid (∀ (W : World) (l' : List Sp) (g1 g2 : Nat), l'.map Sp.s = l.map Sp.s → Sects W W.heap.size (some ⟨g1, 0, none⟩) l' → Syms W W.heap.size (some ⟨g2, 0, none⟩) ms → n ≤ 1048576 → m ≤ 1048576 → (∀ y ∈ l, y.s.short) → nk ≤ 1048576 → ∀ kb, Has W kb 3 (K.map (Value.int .i64)).toArray →
      Calls Try.prog 7 #[.agg #[.slice (some ⟨g1, 0, none⟩) n n, .slice (some ⟨g2, 0, none⟩) m m], .slice (some ⟨kb, 0, none⟩) nk nk] W (AnsB W A okb N M)) := fun W l' g1 g2 he k1 k2 q1 q2 q3 q4 kb hkb => by
    exact keepSections'_any W W.heap.size (some ⟨g1, 0, none⟩) (some ⟨g2, 0, none⟩) n m n m l' ms (by rw [length_same he, ← hn]) hm k1 k2 (Nat.le_refl _) q1 q2 (short_same he q3) (fun x hx => (hs x hx).name) K (some ⟨kb, 0, none⟩) nk nk (vals_hasI hkb) hkn.symm q4 A okb N M (by rw [he]; exact hA) hN hM
  have HIM : Hid (∀ (W : World) (l' : List Sp) (g1 g2 : Nat), l'.map Sp.s = l.map Sp.s → Sects W W.heap.size (some ⟨g1, 0, none⟩) l' → Syms W W.heap.size (some ⟨g2, 0, none⟩) ms → (∀ y ∈ l, y.s.short) → nk ≤ 1048576 → ∀ kb, Has W kb 3 (K.map (Value.int .i64)).toArray →
      Calls Try.prog 6 #[.agg #[.slice (some ⟨g1, 0, none⟩) n n, .slice (some ⟨g2, 0, none⟩) m m], .slice (some ⟨kb, 0, none⟩) nk nk] W (AnsB W A okb N M)) := fun W l' g1 g2 he k1 k2 q3 q4 kb hkb => by
    exact keepSections_any W W.heap.size (some ⟨g1, 0, none⟩) (some ⟨g2, 0, none⟩) n m n m l' ms (by rw [length_same he, ← hn]) hm k1 k2 (Nat.le_refl _) hlen hlem (fits_same he hl) hs (fun y hy => (short_same he q3 y hy).1) K (some ⟨kb, 0, none⟩) nk nk (vals_hasI hkb) hkn.symm q4 A okb N M (by rw [he]; exact hA) hN hM
  have HEX : Hid (∀ (W : World) (B1 : Nat) (l1 l2 : List Sp) (g1 g2 h1 h2 : Nat), l1.map Sp.s = l.map Sp.s → l2.map Sp.s = l.map Sp.s → B1 ≤ W.heap.size → Sects W B1 (some ⟨g1, 0, none⟩) l1 → Syms W B1 (some ⟨g2, 0, none⟩) ms → Sects W W.heap.size (some ⟨h1, 0, none⟩) l2 → Syms W W.heap.size (some ⟨h2, 0, none⟩) ms →
      Calls Try.prog 14 #[.agg #[.slice (some ⟨g1, 0, none⟩) n n, .slice (some ⟨g2, 0, none⟩) m m], .agg #[.slice (some ⟨h1, 0, none⟩) n n, .slice (some ⟨h2, 0, none⟩) m m]] W fun e w' => e = .returned (.bool true) ∧ Below W.heap.size W w') := fun W B1 l1 l2 g1 g2 h1 h2 e1 e2 hB k1 k2 k3 k4 =>
    eqObject_yes W B1 W.heap.size (some ⟨g1, 0, none⟩) (some ⟨g2, 0, none⟩) (some ⟨h1, 0, none⟩) (some ⟨h2, 0, none⟩) n m n m n m l1 l2 ms (e1.trans e2.symm) (by rw [length_same e1, ← hn]) hm k1 k2 k3 k4 hB (Nat.le_refl _) hlen hlem (fun y hy => (fits_same e1 hl y hy).lens)
  have HLN := hidden hn
  have HLM := hidden hm
  unfold TookO at HTO
  unfold SizedO at HSZ
  clear h1 h2 hl hs hn hm hA hAB hN hM hkn hkv hwf
  have hbe : (okb == okb) = true := by simp
  have hbn : (okb != okb) = false := by simp
  go_enter Try.func4, Try.ntmps4
  have hb0 : Below w.heap.size w (w.alloc (.cells #[.slice a1 n c1, .slice a2 m c2] 39)) := (Below.refl _ _).alloc (Nat.le_refl _) _
  have hx0 : Has (w.alloc (.cells #[.slice a1 n c1, .slice a2 m c2] 39)) w.heap.size 39 #[.slice a1 n c1, .slice a2 m c2] := Has.new _ _ _
  by_cases hbig : 1048576 < nk
  · have hd : (1048576 : Int) < (nk : Int) := by omega
    go_wp2_with fail
    go_ret
    exact ⟨rfl, hb0⟩
  have hd : ¬ (1048576 : Int) < (nk : Int) := by omega
  have hl3 : nk ≤ 1048576 := by omega
  go_wp2_with fail
  refine (HSZ.out _ hb0).mono ?_
  clear HSZ
  rintro e w1 ⟨r, rfl, hb1, hr0, hr1, hr2⟩
  have hx1 := hx0.below hb1 hx0.lt
  have hB1 := hb0.trans (hb1.mono hb0.size)
  by_cases hneg : r < 0
  · clear hr2 hx0 hx1
    go_wp2_with fail
    go_ret
    exact ⟨rfl, hB1⟩
  obtain ⟨⟨q1, q2⟩, q3, _⟩ := hr2 (by omega)
  have hl1 : n ≤ 1048576 := by rw [HLN.out]; exact q1
  have hl2 : m ≤ 1048576 := by rw [HLM.out]; exact q3
  have HSH := hidden q2
  have x0 : World.cell? w1 ⟨w.heap.size, 0, none⟩ = some (.slice a1 n c1) := hx1.cell 0
  have x1 : World.cell? w1 ⟨w.heap.size, 1, none⟩ = some (.slice a2 m c2) := hx1.cell 1
  clear hr2 hx0 hb0 hb1 q1 q2 q3
  have HX1 := hidden hx1
  clear hx1
  -- the model's answer
  go_wp2_with fail
  refine (HTO.out w1 hB1 hl1 hl2 HSH.out).mono ?_
  rintro e w2 ⟨l2, f1, f2, he2, rfl, hi2, hf2, hb2, -, -, -⟩
  have hB2 := hB1.trans (hb2.mono hB1.size)
  have hx2 := HX1.out.below hb2 HX1.out.lt
  have HI2 := hidden hi2
  have HF2 := hidden hf2
  clear x0 x1 hi2 hf2 hb2 hB1 HX1
  go_wp2_with fail
  refine (HTS.out w2 hB2 hl3).mono ?_
  rintro e w2b ⟨rfl, hkb, hb2b⟩
  obtain ⟨kb, hkbe⟩ : ∃ q, w2.heap.size = q := ⟨_, rfl⟩
  have HS2 := hidden (HSP.out w2b l2 f1 f2 he2 ((HI2.out.below hb2b).more hb2b.size) ((HF2.out.below hb2b).more hb2b.size) hl1 hl2 HSH.out hl3 _ hkb)
  have hB2 := hB2.trans (hb2b.mono hB2.size)
  have hx2 := hx2.below hb2b hx2.lt
  rw [hkbe] at HS2 ⊢
  clear hkb hb2b hkbe HI2 HF2 HSP he2
  go_wp2_with fail
  refine HS2.out.mono ?_
  clear HS2
  rintro e w3 ⟨LW, e1, e2, g1, g2, rfl, hLW, hOW, hb3⟩
  have hB3 := hB2.trans (hb3.mono hB2.size)
  have hx3 := hx2.below hb3 hx2.lt
  have hb3a : Below w3.heap.size w3 (w3.alloc (.cells #[.slice e1 N g1, .slice e2 M g2] 26)) := (Below.refl _ _).alloc (Nat.le_refl _) _
  have hx4 : Has (w3.alloc (.cells #[.slice e1 N g1, .slice e2 M g2] 26)) w3.heap.size 26 #[.slice e1 N g1, .slice e2 M g2] := Has.new _ _ _
  have hs3 : (w3.alloc (.cells #[.slice e1 N g1, .slice e2 M g2] 26)).heap.size = w3.heap.size + 1 := by simp
  obtain ⟨W3, hW3⟩ : ∃ q, w3.alloc (.cells #[.slice e1 N g1, .slice e2 M g2] 26) = q := ⟨_, rfl⟩
  obtain ⟨q4, hq4⟩ : ∃ q, w3.heap.size = q := ⟨_, rfl⟩
  rw [hW3, hq4] at hx4
  rw [hW3] at hb3a
  rw [hW3, hq4] at hs3
  have HLW := hidden hLW
  -- what stays of the time up to the model's answer
  have HBX : Hid (∀ W, Below w3.heap.size w3 W → Below w.heap.size w W ∧ Has W w.heap.size 39 #[.slice a1 n c1, .slice a2 m c2]) := fun W hW => ⟨hB3.trans (hW.mono hB3.size), hx3.below hW hx3.lt⟩
  have HEQ : Hid (∀ (W : World) (L' : List Sp) (p1 p2 : Option Addr) (d1 d2 lo' : Nat), L'.map Sp.s = A.1 → OwnR W lo' p1 p2 N M d1 d2 L' A.2 → Below w3.heap.size w3 W → Calls Try.prog 14 #[.agg #[.slice p1 N d1, .slice p2 M d2], .agg #[.slice e1 N g1, .slice e2 M g2]] W fun e w' => e = .returned (.bool true) ∧ Below W.heap.size W w') := fun W L' p1 p2 d1 d2 lo' he hg hb => by
    obtain ⟨hf8, hf12, hfs⟩ := HFW.out
    exact eqObject_yes W W.heap.size w3.heap.size p1 p2 e1 e2 d1 d2 g1 g2 N M L' LW A.2 (he.trans HLW.out.symm) hg.len.symm HME.out.symm hg.sects hg.syms' (hOW.sects.below hb) (hOW.syms'.below hb) (Nat.le_refl _) hb.size (by omega) (by omega) (fun y hy => by
      have hym : y.s ∈ A.1 := by rw [← he]; exact List.mem_map_of_mem hy
      exact (hfs y.s hym).1)
  have HB3A := hidden hb3a
  have HX4 := hidden hx4
  have HW3 := hidden hW3
  have HQ4 := hidden hq4
  have HS3 := hidden hs3
  obtain ⟨hbw3, hbox3⟩ := HBX.out W3 hb3a
  have x0 : W3.cell? ⟨w.heap.size, 0, none⟩ = some (.slice a1 n c1) := hbox3.cell 0
  have x1 : W3.cell? ⟨w.heap.size, 1, none⟩ = some (.slice a2 m c2) := hbox3.cell 1
  have HT3 := hidden (HTO.out W3 hbw3 hl1 hl2 HSH.out)
  clear hx2 hB2 hB3 hx3 hb3 hOW hLW hx4 hb3a hW3 hq4 hs3 hbw3 hbox3
  go_upto_region 8 with fail
  rw [HW3.out, HQ4.out]
  clear HW3
  -- the program's argument
  go_wp2_with fail
  refine HT3.out.mono ?_
  clear HT3
  rintro e w4 ⟨l4, k1, k2, he4, rfl, hi4, hf4, hb4, hlk1, hlk2, hfar4, ⟨cs4, hcs4, hfx4⟩, ⟨cm4, hcm4, hcm4s⟩⟩
  have hB4 := HB3A.out.trans (hb4.mono HB3A.out.size)
  have hx4 := HX4.out.below hb4 HX4.out.lt
  have hX5 : Has (w4.alloc (.cells #[.slice (some ⟨k1, 0, none⟩) n n, .slice (some ⟨k2, 0, none⟩) m m] 26)) w4.heap.size 26 #[.slice (some ⟨k1, 0, none⟩) n n, .slice (some ⟨k2, 0, none⟩) m m] := Has.new _ _ _
  have hbA : Below w4.heap.size w4 (w4.alloc (.cells #[.slice (some ⟨k1, 0, none⟩) n n, .slice (some ⟨k2, 0, none⟩) m m] 26)) := (Below.refl _ _).alloc (Nat.le_refl _) _
  have s4 : (w4.alloc (.cells #[.slice (some ⟨k1, 0, none⟩) n n, .slice (some ⟨k2, 0, none⟩) m m] 26)).heap.size = w4.heap.size + 1 := by simp
  have hi4a : Sects (w4.alloc (.cells #[.slice (some ⟨k1, 0, none⟩) n n, .slice (some ⟨k2, 0, none⟩) m m] 26)) (w4.alloc (.cells #[.slice (some ⟨k1, 0, none⟩) n n, .slice (some ⟨k2, 0, none⟩) m m] 26)).heap.size (some ⟨k1, 0, none⟩) l4 := (hi4.alloc (Nat.le_refl _) _).more (by simp)
  have hf4a : Syms (w4.alloc (.cells #[.slice (some ⟨k1, 0, none⟩) n n, .slice (some ⟨k2, 0, none⟩) m m] 26)) (w4.alloc (.cells #[.slice (some ⟨k1, 0, none⟩) n n, .slice (some ⟨k2, 0, none⟩) m m] 26)).heap.size (some ⟨k2, 0, none⟩) ms := (hf4.alloc (Nat.le_refl _) _).more (by simp)
  obtain ⟨W4, hW4⟩ : ∃ q, w4.alloc (.cells #[.slice (some ⟨k1, 0, none⟩) n n, .slice (some ⟨k2, 0, none⟩) m m] 26) = q := ⟨_, rfl⟩
  obtain ⟨q5, hq5⟩ : ∃ q, w4.heap.size = q := ⟨_, rfl⟩
  rw [hW4] at hi4a hf4a hbA
  rw [hW4, hq5] at s4 hX5
  have HE4 := hidden he4
  have HBT4 := hidden (HTS.out W4 (HBX.out W4 (hB4.trans (hbA.mono hB4.size))).1 hl3)
  have HB4 := hidden (hB4.trans (hbA.mono hB4.size))
  have HX4a := hidden (hx4.below hbA hx4.lt)
  have HX5 := hidden hX5
  have HAA := hidden hbA
  have HFAR := hidden hfar4
  have HCS := hidden hcs4
  have HFX := hidden hfx4
  have HCM := hidden hcm4
  have HCMS := hidden hcm4s
  have HIX := hidden hi4a
  have HFXS := hidden hf4a
  have HLK := hidden (And.intro hlk1 hlk2)
  have HW4 := hidden hW4
  have HQ5 := hidden hq5
  have S4 := hidden s4
  have HSW4 : Hid (W3.heap.size ≤ w4.heap.size) := hb4.size
  have y0 : W4.cell? ⟨q5, 0, none⟩ = some (.slice (some ⟨k1, 0, none⟩) n n) := hX5.cell 0
  have y1 : W4.cell? ⟨q5, 1, none⟩ = some (.slice (some ⟨k2, 0, none⟩) m m) := hX5.cell 1
  clear x0 x1 hi4 hf4 hb4 hx4 he4 hi4a hf4a hX5 hB4 s4 hfar4 hcs4 hfx4 hcm4 hcm4s hbA hW4 hq5 hlk1 hlk2 HX4 HB3A
  go_upto_region 9 with fail
  rw [HW4.out, HQ5.out]
  clear HW4 y0 y1
  go_wp2_with fail
  refine HBT4.out.mono ?_
  clear HBT4
  rintro e V4 ⟨rfl, hkb, hbV⟩
  obtain ⟨kb, hkbe⟩ : ∃ q, W4.heap.size = q := ⟨_, rfl⟩
  rw [hkbe] at hkb ⊢
  have HKB : Hid (W4.heap.size = kb) := hkbe
  have HVS : Hid (W4.heap.size ≤ V4.heap.size) := hbV.size
  have HB4 := hidden (HB4.out.trans (hbV.mono HB4.out.size))
  have HX4a := hidden (HX4a.out.below hbV HX4a.out.lt)
  have HX5 := hidden (HX5.out.below hbV HX5.out.lt)
  have HAA := hidden (HAA.out.trans (hbV.mono HAA.out.size))
  have HIX := hidden ((HIX.out.below hbV).more hbV.size)
  have HFXS := hidden ((HFXS.out.below hbV).more hbV.size)
  have HI4 := hidden (HIM.out V4 l4 k1 k2 HE4.out HIX.out HFXS.out HSH.out hl3 kb hkb)
  have HKH := hidden hkb
  have hHKlt : kb < V4.heap.size := hkb.lt
  have y0 : V4.cell? ⟨q5, 0, none⟩ = some (.slice (some ⟨k1, 0, none⟩) n n) := HX5.out.cell 0
  have y1 : V4.cell? ⟨q5, 1, none⟩ = some (.slice (some ⟨k2, 0, none⟩) m m) := HX5.out.cell 1
  clear hkb hbV hkbe
  go_wp2_with fail
  refine HI4.out.mono ?_
  clear HI4 y0 y1
  rintro e w5 ⟨L, p1, p2, d1, d2, rfl, hL, hO, hb5⟩
  have hX6 : Has (w5.alloc (.cells #[.slice p1 N d1, .slice p2 M d2] 26)) w5.heap.size 26 #[.slice p1 N d1, .slice p2 M d2] := Has.new _ _ _
  have hb5a : Below w5.heap.size w5 (w5.alloc (.cells #[.slice p1 N d1, .slice p2 M d2] 26)) := (Below.refl _ _).alloc (Nat.le_refl _) _
  obtain ⟨W5, hW5⟩ : ∃ q, w5.alloc (.cells #[.slice p1 N d1, .slice p2 M d2] 26) = q := ⟨_, rfl⟩
  obtain ⟨q6, hq6⟩ : ∃ q, w5.heap.size = q := ⟨_, rfl⟩
  have hq6l : V4.heap.size ≤ q6 := by rw [← hq6]; exact hb5.size
  rw [hW5] at hb5a
  rw [hW5, hq6] at hX6
  have hbb : Below V4.heap.size V4 W5 := hb5.trans (hb5a.mono hb5.size)
  have HO5 := hidden (hO.below hb5a)
  have HX65 := hidden hX6
  have HX45 := hidden (HX4a.out.below hbb HX4a.out.lt)
  have HX55 := hidden (HX5.out.below hbb HX5.out.lt)
  have HK5 := hidden (HKH.out.below hbb HKH.out.lt)
  have HB5 := hidden (HB4.out.trans (hbb.mono HB4.out.size))
  have HA5 := hidden (HAA.out.trans (hbb.mono HAA.out.size))
  have HI5 := hidden (HIX.out.below hbb)
  have HF5 := hidden (HFXS.out.below hbb)
  have HS5 : Hid (V4.heap.size ≤ W5.heap.size) := hbb.size
  have HL := hidden hL
  have HQ6 := hidden hq6l
  have HE1 := hidden (HEQ.out W5 L p1 p2 d1 d2 V4.heap.size hL HO5.out HB5.out)
  have HWB := hidden hW5
  have HQ66 := hidden hq6
  clear hX6 hb5a hbb hO hb5 hL hW5 hq6 HX4a HX5 HB4 HAA HIX HFXS hq6l HKH
  go_upto_region 11 with fail
  rw [HWB.out, HQ66.out]
  clear HWB HQ66
  have t0 : W5.cell? ⟨q6, 0, none⟩ = some (.slice p1 N d1) := HX65.out.cell 0
  have t1 : W5.cell? ⟨q6, 1, none⟩ = some (.slice p2 M d2) := HX65.out.cell 1
  have u0 : W5.cell? ⟨q4, 0, none⟩ = some (.slice e1 N g1) := HX45.out.cell 0
  have u1 : W5.cell? ⟨q4, 1, none⟩ = some (.slice e2 M g2) := HX45.out.cell 1
  go_wp2_with fail
  refine HE1.out.mono ?_
  clear HE1 t0 t1 u0 u1
  rintro e w6 ⟨rfl, hb6⟩
  have HO6 := hidden (HO5.out.below hb6)
  have HX66 := hidden (HX65.out.below hb6 HX65.out.lt)
  have HX46 := hidden (HX45.out.below hb6 HX45.out.lt)
  have HX56 := hidden (HX55.out.below hb6 HX55.out.lt)
  have HK6 := hidden (HK5.out.below hb6 HK5.out.lt)
  have HB6 := hidden (HB5.out.trans (hb6.mono HB5.out.size))
  have HA6 := hidden (HA5.out.trans (hb6.mono HA5.out.size))
  have HI6 := hidden (HI5.out.below (hb6.mono HS5.out))
  have HF6 := hidden (HF5.out.below (hb6.mono HS5.out))
  have HS6 : Hid (V4.heap.size ≤ w6.heap.size) := Nat.le_trans HS5.out hb6.size
  clear hb6 HK5 HO5 HX65 HX45 HX55 HB5 HA5 HI5 HF5 HS5
  have x0 : World.cell? w6 ⟨w.heap.size, 0, none⟩ = some (.slice a1 n c1) := (HBX.out w6 HB6.out).2.cell 0
  have x1 : World.cell? w6 ⟨w.heap.size, 1, none⟩ = some (.slice a2 m c2) := (HBX.out w6 HB6.out).2.cell 1
  have y0 : World.cell? w6 ⟨q5, 0, none⟩ = some (.slice (some ⟨k1, 0, none⟩) n n) := HX56.out.cell 0
  have y1 : World.cell? w6 ⟨q5, 1, none⟩ = some (.slice (some ⟨k2, 0, none⟩) m m) := HX56.out.cell 1
  have hB6d : Below w.heap.size w w6.drew := (HBX.out w6 HB6.out).1.drew
  have HTD := hidden (HTO.out w6.drew hB6d hl1 hl2 HSH.out)
  have HYD : Hid (Has w6.drew q5 26 #[.slice (some ⟨k1, 0, none⟩) n n, .slice (some ⟨k2, 0, none⟩) m m]) := HX56.out
  have HID : Hid (Sects w6.drew V4.heap.size (some ⟨k1, 0, none⟩) l4) := HI6.out.drewN 1
  have HFD : Hid (Syms w6.drew V4.heap.size (some ⟨k2, 0, none⟩) ms) := HF6.out.drewN 1
  have HSD : Hid (V4.heap.size ≤ w6.drew.heap.size) := HS6.out
  go_upto_region 13 with fail
  go_cut [56] from 52 (fun v wx => v = .bool false ∧ Hid (Below w6.heap.size w6 wx))
  case first =>
    go_region_with (first
      | (go_at_call 12; refine HTD.out.mono ?_; rintro e w7 ⟨l7, h1, h2, he7, rfl, hi7, hf7, hb7, -, -, -⟩;
         have HB7 := hidden hb7; have HI7 := hidden hi7; have HF7 := hidden hf7; have HE7 := hidden he7; have hy7 := HYD.out.below hb7 HYD.out.lt; clear hi7 hf7 hb7 he7;
         have v0 := hy7.cell 0; have v1 := hy7.cell 1;
         simp only [List.getElem?_toArray, List.getElem?_cons_zero, List.getElem?_cons_succ] at v0 v1; clear hy7)
      | (go_at_call 14; refine (HEX.out _ _ l4 l7 k1 k2 _ _ HE4.out HE7.out (Nat.le_trans HSD.out HB7.out.size) (HID.out.below (HB7.out.mono HSD.out)) (HFD.out.below (HB7.out.mono HSD.out)) HI7.out HF7.out).mono ?_; rintro e w8 ⟨rfl, hb8⟩))
    all_goals
      have hB8 : Below w6.heap.size w6 w8 := ((Below.refl _ _).drew.trans HB7.out).trans (hb8.mono HB7.out.size)
      clear hb8
      go_wp2_with fail
      go_meet
      exact ⟨rfl, hB8⟩
  case rest =>
    obtain ⟨rfl, hbc⟩ := hcut
    have HOc := hidden (HO6.out.below hbc.out)
    have HX6c := hidden (HX66.out.below hbc.out HX66.out.lt)
    have HX4c := hidden (HX46.out.below hbc.out HX46.out.lt)
    have HX5c := hidden (HX56.out.below hbc.out HX56.out.lt)
    have HBc := hidden (HB6.out.trans (hbc.out.mono HB6.out.size))
    have HAc := hidden (HA6.out.trans (hbc.out.mono HA6.out.size))
    have HKc := hidden (HK6.out.below hbc.out HK6.out.lt)
    clear HTD HYD HID HFD HSD hB6d x0 x1 y0 y1 HO6 HX66 HX46 HX56 HB6 HA6 HI6 HF6 HS6 hbc HEX HK6
    go_wp2_with fail
    refine (HTS.out wc (HBX.out wc HBc.out).1 hl3).mono ?_
    rintro e we ⟨rfl, hke, hbe⟩
    have HEK := hidden (eqI_yes we kb wc.heap.size nk K HKN.out HWF.out (HKc.out.below hbe HKc.out.lt) hke hl3)
    have HOe := hidden (HOc.out.below hbe)
    have HX6e := hidden (HX6c.out.below hbe HX6c.out.lt)
    have HX4e := hidden (HX4c.out.below hbe HX4c.out.lt)
    have HX5e := hidden (HX5c.out.below hbe HX5c.out.lt)
    have HBe := hidden (HBc.out.trans (hbe.mono HBc.out.size))
    have HAe := hidden (HAc.out.trans (hbe.mono HAc.out.size))
    have HKe := hidden (HKc.out.below hbe HKc.out.lt)
    clear hke hbe HOc HX6c HX4c HX5c HBc HAc HKc
    go_wp2_with fail
    refine HEK.out.mono ?_
    clear HEK
    rintro e _ ⟨rfl, z, rfl⟩
    obtain ⟨wf, hwf⟩ : ∃ q, we.drewN z = q := ⟨_, rfl⟩
    have hbf : Below we.heap.size we wf := by rw [← hwf]; exact below_drewN (Below.refl _ _) z
    rw [hwf]
    have HOc := hidden (HOe.out.below hbf)
    have HX6c := hidden (HX6e.out.below hbf HX6e.out.lt)
    have HX4c := hidden (HX4e.out.below hbf HX4e.out.lt)
    have HX5c := hidden (HX5e.out.below hbf HX5e.out.lt)
    have HBc := hidden (HBe.out.trans (hbf.mono HBe.out.size))
    have HAc := hidden (HAe.out.trans (hbf.mono HAe.out.size))
    have HKc := hidden (HKe.out.below hbf HKe.out.lt)
    clear hwf hbf HOe HX6e HX4e HX5e HBe HAe HKe
    have y0 : World.cell? wf ⟨q5, 0, none⟩ = some (.slice (some ⟨k1, 0, none⟩) n n) := HX5c.out.cell 0
    have y1 : World.cell? wf ⟨q5, 1, none⟩ = some (.slice (some ⟨k2, 0, none⟩) m m) := HX5c.out.cell 1
    have HMK := hidden (markObject_mkB wf W3.heap.size w4.heap.size k1 k2 n m n m l4 cs4 cm4 1 (by rw [length_same HE4.out]; exact HLN.out) (HCS.out.below HAc.out HCS.out.lt) HFX.out.keptX HLK.out.1 HCS.out.lt (fun y hy => (HFAR.out y hy).below HAc.out)
      (fun y hy b hb => by
        obtain ⟨b1, b2, ha1, ha2, _, _, _, _, ⟨cb, k1, _⟩, ⟨cf, k2, _⟩⟩ := HFAR.out y hy
        rcases hb with hb | hb
        · rw [ha1] at hb; injection hb with hb; injection hb with e1; rw [← e1]; exact k1.lt
        · rw [ha2] at hb; injection hb with hb; injection hb with e1; rw [← e1]; exact k2.lt)
      (fun y hy => by
        have hm : y.s ∈ l.map Sp.s := by rw [← HE4.out]; exact List.mem_map_of_mem hy
        obtain ⟨z, hz, e⟩ := List.mem_map.1 hm
        rw [← e]; exact HSH.out z hz)
      (HCM.out.below HAc.out HCM.out.lt) HCMS.out (Nat.le_trans HLK.out.1 (Nat.le_of_lt HLK.out.2)) HCM.out.lt hl1 hl2 (by omega) (by omega) HAc.out.size)
    go_wp2_with fail
    refine HMK.out.mono ?_
    clear HMK y0 y1
    rintro e w7 ⟨r7, rfl, r70, r71, hmk⟩
    have s3 := HS3.out
    have s4 := S4.out
    have sw := HSW4.out
    have e5 := HQ5.out
    have e4 := HQ4.out
    have hvs := HVS.out
    have HO7 := hidden (HOc.out.marked hmk (by omega))
    have HX67 := hidden (HX6c.out.mkK hmk (.inr (by have := HQ6.out; have := HVS.out; omega)))
    have HX47 := hidden (HX4c.out.mkK hmk (.inl (by omega)))
    have HB7 := hidden (hmk.belowK HBc.out (by omega) HBc.out.size)
    have hkb := HKB.out
    have HK7 := hidden (HKc.out.mkK hmk (.inr (by omega)))
    have HMS := hidden (markIntS_wide w7 kb nk nk _ r7 HK7.out (by rw [List.size_toArray, List.length_map, ← HKN.out]; omega) (by omega) (by omega))
    have hkq : q5 < kb := by omega
    have hw4 : w3.heap.size ≤ kb := by omega
    have hq4k : q4 < kb := by omega
    have HKV : Hid (kb < V4.heap.size) := by show _ < _; have := hHKlt; omega
    clear HOc HX6c HX4c HX5c HBc HAc HKc hmk HFAR HCS HFX HCM HCMS s3 s4 sw e5 e4 hvs hkb
    go_wp2_with fail
    refine HMS.out.mono ?_
    clear HMS
    rintro e w8 ⟨rfl, -, hgr8⟩
    have HO8 := hidden (HO7.out.under HKV.out hgr8)
    have HX68 := hidden (HX67.out.grown hgr8 (by intro e; injection e with e; have := HQ6.out; have := HKV.out; omega))
    have HX48 := hidden (HX47.out.grown hgr8 (by intro e; injection e with e; omega))
    have HB8 := hidden (HB7.out.grown hgr8 HB7.out.size (fun q hq => by injection hq with hq; omega))
    have HE7 := hidden (HEQ.out w8 L p1 p2 d1 d2 V4.heap.size HL.out HO8.out HB8.out)
    obtain ⟨r8, hr8⟩ : ∃ q : Int, r7 + (nk : Int) = q := ⟨_, rfl⟩
    have hr80 : ¬ r8 < 0 := by omega
    have hr81 : decide (r8 < 0) = false := by simp [hr80]
    rw [hr8]
    have t0 : w8.cell? ⟨q6, 0, none⟩ = some (.slice p1 N d1) := HX68.out.cell 0
    have t1 : w8.cell? ⟨q6, 1, none⟩ = some (.slice p2 M d2) := HX68.out.cell 1
    have u0 : w8.cell? ⟨q4, 0, none⟩ = some (.slice e1 N g1) := HX48.out.cell 0
    have u1 : w8.cell? ⟨q4, 1, none⟩ = some (.slice e2 M g2) := HX48.out.cell 1
    clear HO7 HX67 HX47 HB7 HK7 hgr8 hr8 r70 r71
    go_wp2_with fail
    refine HE7.out.mono ?_
    clear HE7 t0 t1 u0 u1 hr80 hr81
    rintro e w9 ⟨rfl, hb9⟩
    have hG9 := HO8.out.below hb9
    have hXG9 := HX68.out.below hb9 HX68.out.lt
    have q0 : w9.cell? ⟨q6, 0, none⟩ = some (.slice p1 N d1) := hXG9.cell 0
    have q1 : w9.cell? ⟨q6, 1, none⟩ = some (.slice p2 M d2) := hXG9.cell 1
    have HXG9 := hidden hXG9
    have HXW9 := hidden (HX48.out.below hb9 HX48.out.lt)
    have HB9 := hidden (HB8.out.trans (hb9.mono HB8.out.size))
    have hst : (1 : Int) + (startS L L.length : Nat) + 4 * (M : Int) ≤ 4611686018427387904 := by
      have h1 := startS_few (L := L) (by rw [← List.length_map (f := Sp.s), HL.out, HNE.out]; exact HFW.out.1) (fun y hy => (HFW.out.2.2 y.s (by rw [← HL.out]; exact List.mem_map_of_mem hy)).2)
      have h2 := HFW.out.2.1
      omega
    have HNN : Hid (N = L.length) := by show _ = _; rw [← List.length_map (f := Sp.s), HL.out, HNE.out]
    have HK9 := hidden (markObject_wide w9 V4.heap.size N M d1 d2 p1 p2 L 1 HNN.out hG9.resO (by omega) hst)
    obtain ⟨R, hR⟩ : ∃ R : Int, (1 : Int) + (startS L L.length : Nat) + 4 * (M : Int) = R := ⟨_, rfl⟩
    have hR0 : 0 ≤ R := by omega
    have HH9 : Hid (∀ W, MarkedO W V4.heap.size p1 p2 L M 1 → Calls Try.prog 18 #[.agg #[.slice p1 N d1, .slice p2 M d2], .int .i64 1] W fun e w' => e = .returned (.int .i64 R) ∧ Below W.heap.size W w') := fun W hW => by
      have := heldObject_wide W V4.heap.size N M d1 d2 p1 p2 L 1 HNN.out hW (by omega) hst
      rwa [hR] at this
    rw [hR] at HK9
    have hlow : w3.heap.size ≤ V4.heap.size := by have := HS3.out; have := S4.out; have := HSW4.out; have := HQ5.out; have := HQ4.out; have := HVS.out; omega
    clear hb9 hG9 hXG9 HO8 HX68 HX48 HB8 hst hR
    go_wp2_with fail
    refine HK9.out.mono ?_
    clear HK9 q0 q1
    rintro e w10 ⟨rfl, hmk, hb10, hkp⟩
    have hXG10 := hkp _ _ _ (by decide) (by decide) (by decide) (by decide) HXG9.out
    have HXW10 := hidden (hkp _ _ _ (by decide) (by decide) (by decide) (by decide) HXW9.out)
    have HB10 := hidden (HB9.out.trans (hb10.mono hlow))
    have HK10 := hidden hmk
    have HQ10 := hidden (HH9.out w10 hmk)
    have q0 : w10.cell? ⟨q6, 0, none⟩ = some (.slice p1 N d1) := hXG10.cell 0
    have q1 : w10.cell? ⟨q6, 1, none⟩ = some (.slice p2 M d2) := hXG10.cell 1
    have HXG10 := hidden hXG10
    have hR1 : ¬ R < 0 := by omega
    clear hmk hb10 hkp hXG10 HXG9 HXW9 HB9 hlow
    go_wp2_with fail
    refine HQ10.out.mono ?_
    clear HQ10 q0 q1
    rintro e w11 ⟨rfl, hb11⟩
    have HK11 := hidden (HK10.out.below hb11)
    have HXG11 := hidden (HXG10.out.below hb11 HXG10.out.lt)
    have HXW11 := hidden (HXW10.out.below hb11 HXW10.out.lt)
    have HB11 := hidden (HB10.out.trans (hb11.mono HB10.out.size))
    obtain ⟨hbw11, hbox11⟩ := HBX.out w11 HB11.out
    have x0 : w11.cell? ⟨w.heap.size, 0, none⟩ = some (.slice a1 n c1) := hbox11.cell 0
    have x1 : w11.cell? ⟨w.heap.size, 1, none⟩ = some (.slice a2 m c2) := hbox11.cell 1
    have HT11 := hidden (HTO.out w11 hbw11 hl1 hl2 HSH.out)
    clear hb11 HK10 HXG10 HXW10 HB10 hbw11 hbox11 HTO
    go_wp2_with fail
    refine HT11.out.mono ?_
    clear HT11 x0 x1
    rintro e w12 ⟨l7, f3, f4, he7, rfl, hi7, hf7, hb12, -, -, -⟩
    have HI7 := hidden hi7
    have HF7 := hidden hf7
    have HB12t := HB11.out.trans (hb12.mono HB11.out.size)
    have HT12 := hidden (HTS.out w12 (HBX.out w12 HB12t).1 hl3)
    have HK12 := hidden (HK11.out.below hb12)
    have HXG12 := hidden (HXG11.out.below hb12 HXG11.out.lt)
    have HXW12 := hidden (HXW11.out.below hb12 HXW11.out.lt)
    have HB12 := hidden (HB11.out.trans (hb12.mono HB11.out.size))
    clear hb12 HK11 HXG11 HXW11 HB11 hi7 hf7 HB12t HTS
    go_wp2_with fail
    refine HT12.out.mono ?_
    clear HT12
    rintro e v12 ⟨rfl, hkf, hbf⟩
    obtain ⟨kf, hkfe⟩ : ∃ q, w12.heap.size = q := ⟨_, rfl⟩
    have HI12 := hidden (HIM.out v12 l7 f3 f4 he7 ((HI7.out.below hbf).more hbf.size) ((HF7.out.below hbf).more hbf.size) HSH.out hl3 _ hkf)
    have HK12 := hidden (HK12.out.below hbf)
    have HXG12 := hidden (HXG12.out.below hbf HXG12.out.lt)
    have HXW12 := hidden (HXW12.out.below hbf HXW12.out.lt)
    have HB12 := hidden (HB12.out.trans (hbf.mono HB12.out.size))
    rw [hkfe] at HI12 ⊢
    clear hbf hkf hkfe HI7 HF7 he7 HIM
    go_wp2_with fail
    refine HI12.out.mono ?_
    clear HI12
    rintro e w13 ⟨L13, v1, v2, z1, z2, rfl, hL13, ho, hb13⟩
    have hb13a : Below w13.heap.size w13 (w13.alloc (.cells #[.slice v1 N z1, .slice v2 M z2] 26)) := (Below.refl _ _).alloc (Nat.le_refl _) _
    have hX13 : Has (w13.alloc (.cells #[.slice v1 N z1, .slice v2 M z2] 26)) w13.heap.size 26 #[.slice v1 N z1, .slice v2 M z2] := Has.new _ _ _
    obtain ⟨wd, hwd⟩ : ∃ q, w13.alloc (.cells #[.slice v1 N z1, .slice v2 M z2] 26) = q := ⟨_, rfl⟩
    rw [hwd] at hb13a hX13
    have hbc : Below v12.heap.size v12 wd := hb13.trans (hb13a.mono hb13.size)
    have HKC := hidden (HK12.out.below hbc)
    have HXGC := hidden (HXG12.out.below hbc HXG12.out.lt)
    have HXWC := hidden (HXW12.out.below hbc HXW12.out.lt)
    have HBC := hidden (HB12.out.trans (hbc.mono HB12.out.size))
    have HE13 := hidden (HEQ.out wd L13 v1 v2 z1 z2 v12.heap.size hL13 (ho.below hb13a) HBC.out)
    have HWC := hidden hwd
    have HX13 := hidden hX13
    clear hb13 hb13a hX13 hwd hbc ho hL13 HK12 HXG12 HXW12 HB12
    go_upto_region 31 with fail
    rw [HWC.out]
    clear HWC
    have q0 : wd.cell? ⟨w13.heap.size, 0, none⟩ = some (.slice v1 N z1) := HX13.out.cell 0
    have q1 : wd.cell? ⟨w13.heap.size, 1, none⟩ = some (.slice v2 M z2) := HX13.out.cell 1
    have q2 : wd.cell? ⟨q4, 0, none⟩ = some (.slice e1 N g1) := HXWC.out.cell 0
    have q3 : wd.cell? ⟨q4, 1, none⟩ = some (.slice e2 M g2) := HXWC.out.cell 1
    go_wp2_with fail
    refine HE13.out.mono ?_
    clear HE13 q0 q1 q2 q3 HX13 HXWC
    rintro e w14 ⟨rfl, hb14⟩
    have hXG14 := HXGC.out.below hb14 HXGC.out.lt
    have HQ14 := hidden (HH9.out w14 (HKC.out.below hb14))
    have HB14 := hidden (HBC.out.trans (hb14.mono HBC.out.size))
    have q0 : w14.cell? ⟨q6, 0, none⟩ = some (.slice p1 N d1) := hXG14.cell 0
    have q1 : w14.cell? ⟨q6, 1, none⟩ = some (.slice p2 M d2) := hXG14.cell 1
    clear hb14 hXG14 HKC HXGC HBC HH9 HEQ
    go_wp2_with fail
    refine HQ14.out.mono ?_
    clear HQ14 q0 q1
    rintro e w15 ⟨rfl, hb15⟩
    have HFIN := hidden (HBX.out w15 (HB14.out.trans (hb15.mono HB14.out.size))).1
    clear hb15 HB14 HBX
    go_wp2_with fail
    go_ret
    exact ⟨rfl, HFIN.out⟩

end Go.Proofs.Ytjpclpjhigongaa

/-
  The bytes of an object read back, in plain words: what is written is read.
-/
import Derived.Test.YtdmdjlnpbmiadaaGreatDoorWriteS
import Derived.Test.YtdmdjlnpbmiadaaGreatDoorGetHd
namespace Go.Proofs.YtdmdjlnpbmiadaaGreatDoor
open Go.RowKit

/-- The byte at a place, or 0. -/
def by1 (b : List Int) (n : Int) : Int := max 0 (getVal b n 1)
/-- The number in two bytes at a place. -/
def by2 (b : List Int) (n : Int) : Int := getVal b n 2
theorem getD_mid (p : List Int) (x : Int) (q : List Int) (k : Nat) (hk : k = p.length) : (p ++ x :: q).getD k 0 = x := by
  subst hk
  rw [List.getD_eq_getElem?_getD, List.getElem?_append_right (Nat.le_refl _), Nat.sub_self]; rfl
theorem by1_at (p : List Int) (x : Int) (q : List Int) (hx : 0 ≤ x) (n : Int) (hn : n = p.length) : by1 (p ++ x :: q) n = x := by
  subst hn
  unfold by1 getVal
  rw [if_neg (by omega), if_neg (by omega), if_neg (by simp; omega)]
  unfold leAt
  rw [if_pos rfl, Int.toNat_natCast, getD_mid p x q _ rfl]
  omega
theorem by2_at (p : List Int) (x : Int) (q : List Int) (h0 : 0 ≤ x) (h1 : x < 65536) (n : Int) (hn : n = p.length) : by2 (p ++ (putList x 2 ++ q)) n = x := by
  subst hn
  rw [putList_yes (by omega) (by omega) h0 (by show x < 65536; exact h1), show ((2 : Int).toNat) = 2 from rfl, bytesOf_2 x h0 h1]
  unfold by2 getVal
  rw [if_neg (by omega), if_neg (by omega), if_neg (by simp; omega)]
  unfold leAt
  rw [if_neg (by omega), if_pos rfl, Int.toNat_natCast, show p ++ ([x % 256, x / 256] ++ q) = p ++ (x % 256) :: ((x / 256) :: q) from rfl, getD_mid p _ _ _ rfl,
    show p ++ (x % 256) :: ((x / 256) :: q) = (p ++ [x % 256]) ++ (x / 256) :: q by simp, getD_mid _ _ _ _ (by simp)]
  omega
/-- The name at a place of a table; the empty one if there is none. -/
def nameOf (t : List Int) (n : Int) : ByteArray := match textAt t n with | some s => strOfNums s | none => ⟨#[]⟩
/-- One fixup, and as many as there are said to be, as long as there is room. -/
def rdFix (b : List Int) (fix : Int) : Fx := ⟨by1 b fix, by1 b (fix + 1), by1 b (fix + 2), by2 b (fix + 3) - 1000⟩
def rdFixs (b : List Int) (names : Int) : Nat → Int → List Fx
  | 0, _ => []
  | j + 1, fix => if fix + 5 ≤ names then rdFix b fix :: rdFixs b names j (fix + 5) else []
/-- The sections, one behind the other. -/
def rdSecs (b t : List Int) (names : Int) : Nat → Int → Int → Int → Option (List Sx)
  | 0, _, _, _ => some []
  | n + 1, fr, at_, fix =>
    if by1 b (fr + 2) = 3 then (rdSecs b t names n (fr + 6) at_ (fix + 5 * ((rdFixs b names (by1 b (fr + 5)).toNat fix).length : Int))).map fun r => ⟨nameOf t (by2 b fr), by1 b (fr + 2), by1 b (fr + 3), [], by1 b (fr + 4), rdFixs b names (by1 b (fr + 5)).toNat fix⟩ :: r
    else if (b.length : Int) - at_ < by1 b (fr + 4) then none
    else (rdSecs b t names n (fr + 6) (at_ + by1 b (fr + 4)) (fix + 5 * ((rdFixs b names (by1 b (fr + 5)).toNat fix).length : Int))).map fun r => ⟨nameOf t (by2 b fr), by1 b (fr + 2), by1 b (fr + 3), (b.drop at_.toNat).take (by1 b (fr + 4)).toNat, 0, rdFixs b names (by1 b (fr + 5)).toNat fix⟩ :: r
/-- The symbols. -/
def rdSym (b t : List Int) (fr : Int) : Sm := ⟨nameOf t (by2 b fr), by1 b (fr + 2), by1 b (fr + 3) - 2, by2 b (fr + 4)⟩
def rdSyms (b t : List Int) : Nat → Int → List Sm
  | 0, _ => []
  | n + 1, fr => rdSym b t fr :: rdSyms b t n (fr + 6)
/-- The object that the bytes tell of. -/
def parse (b : List Int) : Option (List Sx × List Sm) :=
  if isHd b = false ∨ (b.length : Int) < 10 + 6 * (getHd b).sec + 6 * (getHd b).sym + 5 * (getHd b).fix + (getHd b).nam then none
  else (rdSecs b ((b.drop (10 + 6 * (getHd b).sec + 6 * (getHd b).sym + 5 * (getHd b).fix).toNat).take (getHd b).nam.toNat) (10 + 6 * (getHd b).sec + 6 * (getHd b).sym + 5 * (getHd b).fix) (getHd b).sec.toNat 10
    (10 + 6 * (getHd b).sec + 6 * (getHd b).sym + 5 * (getHd b).fix + (getHd b).nam) (10 + 6 * (getHd b).sec + 6 * (getHd b).sym)).map fun ss =>
      (ss, rdSyms b ((b.drop (10 + 6 * (getHd b).sec + 6 * (getHd b).sym + 5 * (getHd b).fix).toNat).take (getHd b).nam.toNat) (getHd b).sym.toNat (10 + 6 * (getHd b).sec))
/-- The bytes of an object, by its sections' and symbols' own values. -/
def namesX (ss : List Sx) (ms : List Sm) : List ByteArray := ss.map Sx.name ++ ms.map Sm.name
def secX (t : List Int) (s : Sx) : List Int := putList (placeIn t s.name) 2 ++ [s.kind, s.align, s.long, (s.fixs.length : Int)]
def manyX (ss : List Sx) : Nat := (ss.map fun s => s.fixs.length).sum
def wobj (ss : List Sx) (ms : List Sm) : List Int :=
  if objOk ss ms then
    putHd ⟨ss.length, ms.length, manyX ss, (nameTab (namesX ss ms)).length⟩ ++ (ss.flatMap (secX (nameTab (namesX ss ms))) ++ (ms.flatMap (symBytes (nameTab (namesX ss ms))) ++ ((ss.flatMap fun s => s.fixs.flatMap fixBytes) ++ (nameTab (namesX ss ms) ++ ss.flatMap Sx.bytes)))) else []
theorem writeObj_wobj (l : List Sp) (ms : List Sm) : writeObj l ms = wobj (l.map Sp.s) ms := by
  have e1 : allNames l ms = namesX (l.map Sp.s) ms := by unfold allNames namesX; rw [List.map_map]; rfl
  have e2 : manyFix l = manyX (l.map Sp.s) := by unfold manyFix manyX; rw [List.map_map]; rfl
  unfold writeObj wobj headOf
  rw [e1, e2, List.length_map, List.flatMap_map, List.flatMap_map, List.flatMap_map]
  rfl
/-- Sections that stand by themselves. -/
def bare (ss : List Sx) : List Sp := ss.map fun s => ⟨s, none, 0, none, 0⟩
theorem bare_s (ss : List Sx) : (bare ss).map Sp.s = ss := by unfold bare; rw [List.map_map]; exact List.map_id ss
theorem wobj_bare (ss : List Sx) (ms : List Sm) : wobj ss ms = writeObj (bare ss) ms := by rw [writeObj_wobj, bare_s]
/-- What the bytes are read as. -/
def rd (b : List Int) : Option (List Sx × List Sm) :=
  match parse b with
  | some (ss, ms) => if objOk ss ms && decide (wobj ss ms = b) then some (ss, ms) else none
  | none => none
theorem rd_some {b : List Int} {ss : List Sx} {ms : List Sm} (h : rd b = some (ss, ms)) : objOk ss ms = true ∧ wobj ss ms = b := by
  unfold rd at h
  split at h
  · split at h
    · rename_i hc
      injection h with h
      injection h with h1 h2
      subst h1 h2
      simpa using hc
    · cases h
  · cases h
/-- What a section must be for its bytes to tell it. -/
structure Told (t : List Int) (s : Sx) : Prop where
  place : 0 ≤ placeIn t s.name ∧ placeIn t s.name < 65536
  name : nameOf t (placeIn t s.name) = s.name
  nums : 0 ≤ s.kind ∧ 0 ≤ s.align ∧ 0 ≤ s.long
  blank : s.kind = 3 → s.bytes = [] ∧ s.long = s.size
  full : s.kind ≠ 3 → s.size = 0 ∧ s.long = s.bytes.length
  fixs : ∀ f ∈ s.fixs, 0 ≤ f.pl ∧ 0 ≤ f.kind ∧ 0 ≤ f.to ∧ -1000 ≤ f.add ∧ f.add ≤ 1000
theorem rdFix_w (p : List Int) (f : Fx) (q : List Int) (h : 0 ≤ f.pl ∧ 0 ≤ f.kind ∧ 0 ≤ f.to ∧ -1000 ≤ f.add ∧ f.add ≤ 1000) : rdFix (p ++ (fixBytes f ++ q)) p.length = f := by
  obtain ⟨h1, h2, h3, h4, h5⟩ := h
  unfold rdFix fixBytes
  have e : p ++ ([f.pl, f.kind, f.to] ++ putList (f.add + 1000) 2 ++ q) = p ++ f.pl :: (f.kind :: (f.to :: (putList (f.add + 1000) 2 ++ q))) := by simp
  rw [e, by1_at p _ _ h1 _ rfl]
  have e1 : p ++ f.pl :: (f.kind :: (f.to :: (putList (f.add + 1000) 2 ++ q))) = (p ++ [f.pl]) ++ f.kind :: (f.to :: (putList (f.add + 1000) 2 ++ q)) := by simp
  have e2 : p ++ f.pl :: (f.kind :: (f.to :: (putList (f.add + 1000) 2 ++ q))) = (p ++ [f.pl, f.kind]) ++ f.to :: (putList (f.add + 1000) 2 ++ q) := by simp
  have e3 : p ++ f.pl :: (f.kind :: (f.to :: (putList (f.add + 1000) 2 ++ q))) = (p ++ [f.pl, f.kind, f.to]) ++ (putList (f.add + 1000) 2 ++ q) := by simp
  have r1 := by1_at (p ++ [f.pl]) f.kind (f.to :: (putList (f.add + 1000) 2 ++ q)) h2 ((p.length : Int) + 1) (by simp)
  have r2 := by1_at (p ++ [f.pl, f.kind]) f.to (putList (f.add + 1000) 2 ++ q) h3 ((p.length : Int) + 2) (by simp)
  have r3 := by2_at (p ++ [f.pl, f.kind, f.to]) (f.add + 1000) q (by omega) (by omega) ((p.length : Int) + 3) (by simp)
  rw [← e1] at r1
  rw [← e2] at r2
  rw [← e3] at r3
  rw [r1, r2, r3]
  cases f
  simp only [Fx.mk.injEq, true_and]
  omega
theorem fixBytes_length (f : Fx) (h : -1000 ≤ f.add ∧ f.add ≤ 1000) : (fixBytes f).length = 5 := by
  unfold fixBytes
  rw [List.length_append, put2_length (by omega) (by omega)]; rfl
theorem rdFixs_w (names : Int) : ∀ (fs : List Fx) (p q : List Int), (∀ f ∈ fs, 0 ≤ f.pl ∧ 0 ≤ f.kind ∧ 0 ≤ f.to ∧ -1000 ≤ f.add ∧ f.add ≤ 1000) → (p.length : Int) + 5 * (fs.length : Int) ≤ names →
    rdFixs (p ++ (fs.flatMap fixBytes ++ q)) names fs.length p.length = fs
  | [], _, _, _, _ => rfl
  | f :: r, p, q, h, hn => by
    have hf := h f (by simp)
    have h5 := fixBytes_length f hf.2.2.2
    rw [List.length_cons] at hn ⊢
    rw [rdFixs, if_pos (by omega), List.flatMap_cons, List.append_assoc, rdFix_w p f _ hf]
    have e : p ++ (fixBytes f ++ (r.flatMap fixBytes ++ q)) = (p ++ fixBytes f) ++ (r.flatMap fixBytes ++ q) := by simp
    rw [e, show (p.length : Int) + 5 = ((p ++ fixBytes f).length : Int) by rw [List.length_append, h5]; omega, rdFixs_w names r (p ++ fixBytes f) q (fun g hg => h g (by simp [hg])) (by rw [List.length_append, h5]; omega)]
theorem secX_length {t : List Int} {s : Sx} (h : Told t s) : (secX t s).length = 6 := by
  unfold secX
  rw [List.length_append, put2_length h.place.1 h.place.2]; rfl
theorem fixs_length (fs : List Fx) (h : ∀ f ∈ fs, 0 ≤ f.pl ∧ 0 ≤ f.kind ∧ 0 ≤ f.to ∧ -1000 ≤ f.add ∧ f.add ≤ 1000) : (fs.flatMap fixBytes).length = 5 * fs.length :=
  flat_length fixBytes 5 fs fun f hf => fixBytes_length f (h f hf).2.2.2
theorem rdSecs_w (b t : List Int) (names : Int) : ∀ (ss : List Sx) (p1 q1 p2 q2 p3 q3 : List Int), (∀ s ∈ ss, Told t s) → b = p1 ++ (ss.flatMap (secX t) ++ q1) → b = p2 ++ ((ss.flatMap fun s => s.fixs.flatMap fixBytes) ++ q2) → b = p3 ++ (ss.flatMap Sx.bytes ++ q3) →
    (p2.length : Int) + 5 * (manyX ss : Int) ≤ names → rdSecs b t names ss.length p1.length p3.length p2.length = some ss
  | [], _, _, _, _, _, _, _, _, _, _, _ => rfl
  | s :: r, p1, q1, p2, q2, p3, q3, hs, h1, h2, h3, hn => by
    have ht := hs s (by simp)
    have hm : manyX (s :: r) = s.fixs.length + manyX r := by unfold manyX; simp
    have l6 := secX_length ht
    have lf := fixs_length s.fixs ht.fixs
    obtain ⟨n1, n2, n3⟩ := ht.nums
    rw [List.flatMap_cons] at h1 h2 h3
    -- the parts
    have hb1 : b = p1 ++ (putList (placeIn t s.name) 2 ++ ([s.kind, s.align, s.long, (s.fixs.length : Int)] ++ (r.flatMap (secX t) ++ q1))) := by rw [h1]; unfold secX; simp [List.append_assoc]
    have l2 := put2_length ht.place.1 ht.place.2
    have g0 : by2 b p1.length = placeIn t s.name := by rw [hb1]; exact by2_at p1 _ _ ht.place.1 ht.place.2 _ rfl
    have g2 : by1 b ((p1.length : Int) + 2) = s.kind := by
      have e : b = (p1 ++ putList (placeIn t s.name) 2) ++ s.kind :: (s.align :: (s.long :: ((s.fixs.length : Int) :: (r.flatMap (secX t) ++ q1)))) := by rw [hb1]; simp [List.append_assoc]
      rw [e]; exact by1_at _ _ _ n1 _ (by rw [List.length_append, l2]; omega)
    have g3 : by1 b ((p1.length : Int) + 3) = s.align := by
      have e : b = (p1 ++ putList (placeIn t s.name) 2 ++ [s.kind]) ++ s.align :: (s.long :: ((s.fixs.length : Int) :: (r.flatMap (secX t) ++ q1))) := by rw [hb1]; simp [List.append_assoc]
      rw [e]; exact by1_at _ _ _ n2 _ (by rw [List.length_append, List.length_append, l2]; simp; omega)
    have g4 : by1 b ((p1.length : Int) + 4) = s.long := by
      have e : b = (p1 ++ putList (placeIn t s.name) 2 ++ [s.kind, s.align]) ++ s.long :: ((s.fixs.length : Int) :: (r.flatMap (secX t) ++ q1)) := by rw [hb1]; simp [List.append_assoc]
      rw [e]; exact by1_at _ _ _ n3 _ (by rw [List.length_append, List.length_append, l2]; simp; omega)
    have g5 : by1 b ((p1.length : Int) + 5) = (s.fixs.length : Int) := by
      have e : b = (p1 ++ putList (placeIn t s.name) 2 ++ [s.kind, s.align, s.long]) ++ (s.fixs.length : Int) :: (r.flatMap (secX t) ++ q1) := by rw [hb1]; simp [List.append_assoc]
      rw [e]; exact by1_at _ _ _ (by omega) _ (by rw [List.length_append, List.length_append, l2]; simp; omega)
    have gf : rdFixs b names (by1 b ((p1.length : Int) + 5)).toNat p2.length = s.fixs := by
      rw [g5, Int.toNat_natCast]
      have e : b = p2 ++ (s.fixs.flatMap fixBytes ++ ((r.flatMap fun s => s.fixs.flatMap fixBytes) ++ q2)) := by rw [h2]; simp [List.append_assoc]
      rw [e]; exact rdFixs_w names s.fixs p2 _ ht.fixs (by omega)
    have i1 : b = (p1 ++ secX t s) ++ (r.flatMap (secX t) ++ q1) := by rw [h1]; simp [List.append_assoc]
    have i2 : b = (p2 ++ s.fixs.flatMap fixBytes) ++ ((r.flatMap fun s => s.fixs.flatMap fixBytes) ++ q2) := by rw [h2]; simp [List.append_assoc]
    have i3 : b = (p3 ++ s.bytes) ++ (r.flatMap Sx.bytes ++ q3) := by rw [h3]; simp [List.append_assoc]
    have ih := rdSecs_w b t names r (p1 ++ secX t s) q1 (p2 ++ s.fixs.flatMap fixBytes) q2 (p3 ++ s.bytes) q3 (fun z hz => hs z (by simp [hz])) i1 i2 i3 (by rw [List.length_append, lf]; omega)
    have j1 : ((p1 ++ secX t s).length : Int) = (p1.length : Int) + 6 := by rw [List.length_append, l6]; omega
    have j2 : ((p2 ++ s.fixs.flatMap fixBytes).length : Int) = (p2.length : Int) + 5 * (s.fixs.length : Int) := by rw [List.length_append, lf]; omega
    have j3 : ((p3 ++ s.bytes).length : Int) = (p3.length : Int) + (s.bytes.length : Int) := by rw [List.length_append]; omega
    rw [j1, j2, j3] at ih
    rw [List.length_cons, rdSecs, gf, g0, g2, g3, g4, ht.name]
    by_cases hk : s.kind = 3
    · obtain ⟨k1, k2⟩ := ht.blank hk
      rw [k1, show (p3.length : Int) + (([] : List Int).length : Int) = p3.length by simp] at ih
      rw [if_pos hk, ih, Option.map_some, k2]
      cases s
      simp only at k1
      subst k1
      rfl
    · obtain ⟨k1, k2⟩ := ht.full hk
      have hlen : (p3.length : Int) + (s.bytes.length : Int) ≤ (b.length : Int) := by rw [i3]; simp; omega
      rw [if_neg hk, k2, if_neg (by omega), ih, Option.map_some, Int.toNat_natCast, Int.toNat_natCast]
      have ed : (b.drop p3.length).take s.bytes.length = s.bytes := by
        rw [h3, List.drop_left, List.append_assoc, List.take_left]
      rw [ed]
      cases s
      simp only at k1
      subst k1
      rfl
theorem rdSyms_w (b t : List Int) : ∀ (ms : List Sm) (p q : List Int), (∀ m ∈ ms, (0 ≤ placeIn t m.name ∧ placeIn t m.name < 65536) ∧ nameOf t (placeIn t m.name) = m.name ∧ 0 ≤ m.bind ∧ -2 ≤ m.loc ∧ 0 ≤ m.value ∧ m.value < 65536) → b = p ++ (ms.flatMap (symBytes t) ++ q) →
    rdSyms b t ms.length p.length = ms
  | [], _, _, _, _ => rfl
  | m :: r, p, q, hs, h => by
    obtain ⟨hp, hnm, hb, hl, hv0, hv1⟩ := hs m (by simp)
    rw [List.flatMap_cons] at h
    have l2 := put2_length hp.1 hp.2
    have lv := put2_length hv0 hv1
    have h1 : b = p ++ (putList (placeIn t m.name) 2 ++ ([m.bind, m.loc + 2] ++ (putList m.value 2 ++ (r.flatMap (symBytes t) ++ q)))) := by rw [h]; unfold symBytes; simp [List.append_assoc]
    have g0 : by2 b p.length = placeIn t m.name := by rw [h1]; exact by2_at p _ _ hp.1 hp.2 _ rfl
    have g2 : by1 b ((p.length : Int) + 2) = m.bind := by
      have e : b = (p ++ putList (placeIn t m.name) 2) ++ m.bind :: ((m.loc + 2) :: (putList m.value 2 ++ (r.flatMap (symBytes t) ++ q))) := by rw [h1]; simp [List.append_assoc]
      rw [e]; exact by1_at _ _ _ hb _ (by rw [List.length_append, l2]; omega)
    have g3 : by1 b ((p.length : Int) + 3) = m.loc + 2 := by
      have e : b = (p ++ putList (placeIn t m.name) 2 ++ [m.bind]) ++ (m.loc + 2) :: (putList m.value 2 ++ (r.flatMap (symBytes t) ++ q)) := by rw [h1]; simp [List.append_assoc]
      rw [e]; exact by1_at _ _ _ (by omega) _ (by rw [List.length_append, List.length_append, l2]; simp; omega)
    have g4 : by2 b ((p.length : Int) + 4) = m.value := by
      have e : b = (p ++ putList (placeIn t m.name) 2 ++ [m.bind, m.loc + 2]) ++ (putList m.value 2 ++ (r.flatMap (symBytes t) ++ q)) := by rw [h1]; simp [List.append_assoc]
      rw [e]; exact by2_at _ _ _ hv0 hv1 _ (by rw [List.length_append, List.length_append, l2]; simp; omega)
    have l6 : (symBytes t m).length = 6 := by unfold symBytes; rw [List.length_append, List.length_append, l2, lv]; rfl
    have i1 : b = (p ++ symBytes t m) ++ (r.flatMap (symBytes t) ++ q) := by rw [h]; simp [List.append_assoc]
    have ih := rdSyms_w b t r (p ++ symBytes t m) q (fun z hz => hs z (by simp [hz])) i1
    rw [List.length_append, l6] at ih
    have j : (((p.length + 6 : Nat)) : Int) = (p.length : Int) + 6 := by omega
    rw [j] at ih
    rw [List.length_cons, rdSyms, rdSym, g0, g2, g3, g4, hnm, ih, Int.add_sub_cancel]
theorem hd_back {m : Hd} (h : hdOk m = true) (q : List Int) : isHd (putHd m ++ q) = true ∧ getHd (putHd m ++ q) = m := by
  obtain ⟨h1, h2, h3, h4⟩ := hdOk_iff.1 h
  have hp : putHd m = [111, 98, 106, 1, m.sec, m.sym, m.fix, m.nam % 256, m.nam / 256, 0] := by unfold putHd; rw [h]; rfl
  have hat : hdAt (putHd m ++ q) = m := by
    unfold hdAt
    have e : getVal (putHd m ++ q) 7 2 = m.nam := by
      have := by2_at [111, 98, 106, 1, m.sec, m.sym, m.fix] m.nam (0 :: q) (by omega) (by omega) 7 rfl
      rw [putList_yes (by omega) (by omega) (by omega) (by show m.nam < 65536; omega), show ((2 : Int).toNat) = 2 from rfl, bytesOf_2 m.nam (by omega) (by omega)] at this
      rw [hp]; exact this
    rw [e, hp]
    cases m; rfl
  have hi : isHd (putHd m ++ q) = true := by
    unfold isHd
    rw [hat, hp]
    simp
  exact ⟨hi, by unfold getHd; rw [hi, hat]; rfl⟩
theorem parse_wq {ss : List Sx} {ms : List Sm} (h : objOk ss ms = true) (q : List Int) : parse (wobj ss ms ++ q) = some (ss, ms) := by
  obtain ⟨T, hT⟩ : ∃ T, nameTab (namesX ss ms) = T := ⟨_, rfl⟩
  have hl : objOk ((bare ss).map Sp.s) ms = true := by rw [bare_s]; exact h
  have hO := objOk_told hl
  have hsec : ∀ s ∈ ss, sectOk s ms.length = true := fun s hs => hO.sec ⟨s, none, 0, none, 0⟩ (List.mem_map.2 ⟨s, hs, rfl⟩)
  have hall : allNames (bare ss) ms = namesX ss ms := by unfold allNames namesX bare; rw [List.map_map]; rfl
  have hplace : ∀ s ∈ namesX ss ms, (0 ≤ placeIn T s ∧ placeIn T s < 65536) ∧ nameOf T (placeIn T s) = s := fun s hs => by
    rw [← hall] at hs
    have h1 := place_bounds hO hs
    obtain ⟨q, hq, ht⟩ := nameTab_finds (names_ok hO) hs
    rw [hall, hT] at h1 hq ht
    refine ⟨h1, ?_⟩
    unfold placeIn
    rw [hq]
    unfold nameOf
    rcases e : textAt T q with _ | t
    · rw [e] at ht; cases ht
    · rw [e] at ht; injection ht
  have htold : ∀ s ∈ ss, Told T s := fun s hs => by
    obtain ⟨p1, p2, p3, p4, p5, p6⟩ := sect_parts (hsec s hs)
    obtain ⟨b1, b2, b3⟩ := sect_bytes (hsec s hs)
    have hp := hplace s.name (by unfold namesX; exact List.mem_append.2 (.inl (List.mem_map.2 ⟨s, hs, rfl⟩)))
    have hc := hsec s hs
    unfold sectOk at hc
    simp only [Bool.and_eq_true] at hc
    refine ⟨hp.1, hp.2, ⟨by omega, by omega, p4⟩, fun hk => ?_, fun hk => ?_, fun f hf => ?_⟩
    · have hc := hc.2
      rw [if_pos hk] at hc
      simp only [Bool.and_eq_true, decide_eq_true_eq] at hc
      exact ⟨List.eq_nil_of_length_eq_zero hc.1, by unfold Sx.long; rw [if_pos hk]⟩
    · have hc := hc.2
      rw [if_neg hk] at hc
      simp only [Bool.and_eq_true, decide_eq_true_eq] at hc
      exact ⟨hc.2, by unfold Sx.long; rw [if_neg hk]⟩
    · obtain ⟨c1, c2, c3, c4⟩ := b3 f hf
      exact ⟨c1.1, by omega, c3.1, c4⟩
  have hsym : ∀ m ∈ ms, (0 ≤ placeIn T m.name ∧ placeIn T m.name < 65536) ∧ nameOf T (placeIn T m.name) = m.name ∧ 0 ≤ m.bind ∧ -2 ≤ m.loc ∧ 0 ≤ m.value ∧ m.value < 65536 := fun m hm => by
    have hp := hplace m.name (by unfold namesX; exact List.mem_append.2 (.inr (List.mem_map.2 ⟨m, hm, rfl⟩)))
    obtain ⟨s1, s2, s3⟩ := sym_bytes hO hm
    have sv := sym_value hO hm
    exact ⟨hp.1, hp.2, s1.1, s2, sv⟩
  have hhd := head_ok hO
  have hhe : headOf (bare ss) ms (nameTab (allNames (bare ss) ms)) = ⟨ss.length, ms.length, manyX ss, T.length⟩ := by
    unfold headOf
    have : manyFix (bare ss) = manyX ss := by unfold manyFix manyX bare; rw [List.map_map]; rfl
    rw [this, hall, hT]
    unfold bare
    rw [List.length_map]
  rw [hhe] at hhd
  have hb : wobj ss ms ++ q = putHd ⟨ss.length, ms.length, manyX ss, T.length⟩ ++ (ss.flatMap (secX T) ++ (ms.flatMap (symBytes T) ++ ((ss.flatMap fun s => s.fixs.flatMap fixBytes) ++ (T ++ (ss.flatMap Sx.bytes ++ q))))) := by
    unfold wobj; rw [if_pos h, hT]; simp only [List.append_assoc]
  obtain ⟨hi, hg⟩ := hd_back hhd (ss.flatMap (secX T) ++ (ms.flatMap (symBytes T) ++ ((ss.flatMap fun s => s.fixs.flatMap fixBytes) ++ (T ++ (ss.flatMap Sx.bytes ++ q)))))
  have lH : (putHd ⟨ss.length, ms.length, manyX ss, T.length⟩).length = 10 := by unfold putHd; rw [hhd]; rfl
  rw [← hb] at hi hg
  have lS : (ss.flatMap (secX T)).length = 6 * ss.length := flat_length _ 6 ss fun s hs => secX_length (htold s hs)
  have lM : (ms.flatMap (symBytes T)).length = 6 * ms.length := flat_length _ 6 ms fun m hm => by
    obtain ⟨m1, _, _, _, m5, m6⟩ := hsym m hm
    unfold symBytes; rw [List.length_append, List.length_append, put2_length m1.1 m1.2, put2_length m5 m6]; rfl
  have lF : ∀ r : List Sx, (∀ s ∈ r, Told T s) → (r.flatMap fun s => s.fixs.flatMap fixBytes).length = 5 * manyX r := by
    intro r
    induction r with
    | nil => intro _; rfl
    | cons s r ih =>
      intro hr
      rw [List.flatMap_cons, List.length_append, ih (fun z hz => hr z (by simp [hz])), fixs_length _ (hr s (by simp)).fixs]
      unfold manyX; simp; omega
  have lF := lF ss htold
  obtain ⟨b, hbb⟩ : ∃ b, wobj ss ms ++ q = b := ⟨_, rfl⟩
  rw [hbb] at hb hi hg ⊢
  obtain ⟨H, hH⟩ : ∃ H, putHd ⟨ss.length, ms.length, manyX ss, T.length⟩ = H := ⟨_, rfl⟩
  rw [hH] at hb lH
  have lb : b.length = 10 + 6 * ss.length + 6 * ms.length + 5 * manyX ss + T.length + ((ss.flatMap Sx.bytes).length + q.length) := by
    rw [hb]; simp only [List.length_append, lH, lS, lM, lF]; omega
  unfold parse
  rw [hi, hg]
  simp only
  rw [if_neg (by rintro (h | h); · cases h
                 · omega)]
  have eT : (b.drop ((10 : Int) + 6 * (ss.length : Int) + 6 * (ms.length : Int) + 5 * (manyX ss : Int)).toNat).take ((T.length : Int)).toNat = T := by
    have e : b = (H ++ ss.flatMap (secX T) ++ ms.flatMap (symBytes T) ++ ss.flatMap fun s => s.fixs.flatMap fixBytes) ++ (T ++ (ss.flatMap Sx.bytes ++ q)) := by rw [hb]; simp [List.append_assoc]
    have el : ((10 : Int) + 6 * (ss.length : Int) + 6 * (ms.length : Int) + 5 * (manyX ss : Int)).toNat = (H ++ ss.flatMap (secX T) ++ ms.flatMap (symBytes T) ++ ss.flatMap fun s => s.fixs.flatMap fixBytes).length := by
      simp only [List.length_append, lH, lS, lM, lF]; omega
    rw [el, Int.toNat_natCast]
    conv => lhs; rw [e]
    rw [List.drop_left, List.take_left]
  rw [eT]
  have r1 := rdSecs_w b T (10 + 6 * (ss.length : Int) + 6 * (ms.length : Int) + 5 * (manyX ss : Int)) ss H (ms.flatMap (symBytes T) ++ ((ss.flatMap fun s => s.fixs.flatMap fixBytes) ++ (T ++ (ss.flatMap Sx.bytes ++ q))))
    (H ++ ss.flatMap (secX T) ++ ms.flatMap (symBytes T)) (T ++ (ss.flatMap Sx.bytes ++ q)) (H ++ ss.flatMap (secX T) ++ ms.flatMap (symBytes T) ++ (ss.flatMap fun s => s.fixs.flatMap fixBytes) ++ T) q htold hb
    (by rw [hb]; simp [List.append_assoc]) (by rw [hb]; simp [List.append_assoc]) (by simp only [List.length_append, lH, lS, lM]; omega)
  have r2 := rdSyms_w b T ms (H ++ ss.flatMap (secX T)) ((ss.flatMap fun s => s.fixs.flatMap fixBytes) ++ (T ++ (ss.flatMap Sx.bytes ++ q))) hsym (by rw [hb]; simp [List.append_assoc])
  simp only [List.length_append, lH, lS, lM, lF] at r1 r2
  rw [Int.toNat_natCast, Int.toNat_natCast]
  have c1 : ((10 : Nat) : Int) = 10 := rfl
  have c2 : ((10 + 6 * ss.length + 6 * ms.length : Nat) : Int) = 10 + 6 * (ss.length : Int) + 6 * (ms.length : Int) := by omega
  have c3 : ((10 + 6 * ss.length + 6 * ms.length + 5 * manyX ss + T.length : Nat) : Int) = 10 + 6 * (ss.length : Int) + 6 * (ms.length : Int) + 5 * (manyX ss : Int) + (T.length : Int) := by omega
  have c4 : ((10 + 6 * ss.length : Nat) : Int) = 10 + 6 * (ss.length : Int) := by omega
  rw [c1, c2, c3] at r1
  rw [c4] at r2
  rw [r1, r2]
  rfl
theorem parse_w {ss : List Sx} {ms : List Sm} (h : objOk ss ms = true) : parse (wobj ss ms) = some (ss, ms) := by
  have := parse_wq h []
  rwa [List.append_nil] at this
theorem rd_w {ss : List Sx} {ms : List Sm} (h : objOk ss ms = true) : rd (wobj ss ms) = some (ss, ms) := by
  unfold rd
  rw [parse_w h]
  simp [h]
theorem rd_iff {b : List Int} {ss : List Sx} {ms : List Sm} : rd b = some (ss, ms) ↔ objOk ss ms = true ∧ wobj ss ms = b :=
  ⟨rd_some, fun ⟨h1, h2⟩ => by rw [← h2]; exact rd_w h1⟩
/-- With a byte more nothing is read. -/
theorem rd_more {ss : List Sx} {ms : List Sm} (h : objOk ss ms = true) (x : Int) (q : List Int) : rd (wobj ss ms ++ x :: q) = none := by
  unfold rd
  rw [parse_wq h]
  have : ¬ wobj ss ms = wobj ss ms ++ x :: q := fun e => by
    have := congrArg List.length e
    rw [List.length_append, List.length_cons] at this
    omega
  simp [this]

end Go.Proofs.YtdmdjlnpbmiadaaGreatDoor

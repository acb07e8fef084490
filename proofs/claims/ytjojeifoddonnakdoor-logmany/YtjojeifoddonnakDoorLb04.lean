/-
  The numbers of chapter 8: how loud, in few steps. No program here.
-/
import Derived.Test.YtjojeifoddonnakDoorLb00
import Derived.Lib.BitFns
namespace Go.Proofs.YtjojeifoddonnakDoor.Gai
set_option linter.unusedVariables false

/-- How loud a number is. -/
def gi (n : Nat) : Nat := if n = 0 then 0 else 1 + 4 * Nat.log2 n + (n - 2 ^ Nat.log2 n) * 4 / 2 ^ Nat.log2 n
/-- The middle of the numbers that are as loud. -/
def mid (g : Nat) : Nat := 2 ^ ((g - 1) / 4) + (2 * ((g - 1) % 4) + 1) * 2 ^ ((g - 1) / 4) / 8
def vl (g : Nat) : Nat := if g = 0 then 0 else mid g
/-- There is a number of that gain. -/
def vo (g : Nat) : Bool := Nat.ble (vl g) 8000 && Nat.beq (gi (vl g)) g

theorem gi_zero : gi 0 = 0 := rfl
theorem gi_is {n m q : Nat} (h0 : 2 ^ m ≤ n) (h1 : n < 2 ^ (m + 1)) (hq : (n - 2 ^ m) * 4 / 2 ^ m = q) : gi n = 1 + 4 * m + q := by
  have hp : 0 < 2 ^ m := Nat.two_pow_pos m
  have hn : n ≠ 0 := by omega
  have e : Nat.log2 n = m := (Nat.log2_eq_iff hn).2 ⟨h0, h1⟩
  unfold gi
  rw [if_neg hn, e, hq]
theorem log_is {n : Nat} (h : 0 < n) : ∃ m, 2 ^ m ≤ n ∧ n < 2 ^ (m + 1) :=
  ⟨Nat.log2 n, (Nat.log2_eq_iff (by omega)).1 rfl⟩
theorem log_in {n m : Nat} (h0 : 2 ^ m ≤ n) (h : n ≤ 8000) : m ≤ 12 := by
  rcases Nat.lt_or_ge m 13 with g | g
  · omega
  · have := Nat.pow_le_pow_right (show 0 < 2 by omega) g
    omega
/-- How many bits. -/
theorem len_is {n m : Nat} (h0 : 2 ^ m ≤ n) (h1 : n < 2 ^ (m + 1)) (h : n ≤ 8000) : Lib.bitLen n = m + 1 := by
  rw [Lib.bitLen_shift m n h0 (by omega)]
  have hp : 0 < 2 ^ m := Nat.two_pow_pos m
  have e : n / 2 ^ m = 1 := by
    rw [Nat.pow_succ] at h1
    exact Nat.div_eq_of_lt_le (by omega) (by omega)
  rw [e]; rfl

theorem vo_is {g : Nat} (h : vo g = true) : vl g ≤ 8000 ∧ gi (vl g) = g := by
  unfold vo at h
  rw [Bool.and_eq_true] at h
  exact ⟨Nat.le_of_ble_eq_true h.1, Nat.eq_of_beq_eq_true h.2⟩
theorem vo_not {g : Nat} (h : vo g = false) : 8000 < vl g ∨ (vl g ≤ 8000 ∧ gi (vl g) ≠ g) := by
  rcases Nat.lt_or_ge 8000 (vl g) with g1 | g1
  · exact Or.inl g1
  · refine Or.inr ⟨g1, fun e => ?_⟩
    unfold vo at h
    rw [Nat.ble_eq_true_of_le g1, e, Nat.beq_refl] at h
    cases h

def allOk (p : Nat → Bool) : Nat → Bool
  | 0 => true
  | n + 1 => p n && allOk p n
def blk (p : Nat → Bool) : Bool := allOk (fun a => allOk (fun b => p (100 * a + b)) 100) 81
theorem allOk_at {p : Nat → Bool} : ∀ {n}, allOk p n = true → ∀ i, i < n → p i = true
  | 0, _, i, hi => absurd hi (Nat.not_lt_zero _)
  | n + 1, h, i, hi => by
    simp only [allOk, Bool.and_eq_true] at h
    rcases Nat.lt_or_ge i n with g | g
    · exact allOk_at h.2 i g
    · obtain rfl : i = n := by omega
      exact h.1
theorem blk_at {p : Nat → Bool} (h : blk p = true) (n : Nat) (hn : n < 8100) : p n = true := by
  have h1 := allOk_at (allOk_at h (n / 100) (by omega)) (n % 100) (by omega)
  have e : 100 * (n / 100) + n % 100 = n := by omega
  rwa [e] at h1

theorem gi_all : blk (fun n => Nat.ble 8001 n || (vo (gi n) && Nat.ble (8 * (vl (gi n) - n)) n && Nat.ble (8 * (n - vl (gi n))) n && Nat.ble (gi n) 53)) = true := by decide +kernel
/-- WITHIN AN EIGHTH; and as loud. -/
theorem gi_near {n : Nat} (h : n ≤ 8000) : gi n ≤ 53 ∧ vo (gi n) = true ∧ 8 * (vl (gi n) - n) ≤ n ∧ 8 * (n - vl (gi n)) ≤ n := by
  have := blk_at gi_all n (by omega)
  rw [Bool.or_eq_true, Bool.and_eq_true, Bool.and_eq_true, Bool.and_eq_true] at this
  rcases this with g | ⟨⟨⟨g1, g2⟩, g3⟩, g4⟩
  · have := Nat.le_of_ble_eq_true g; omega
  · exact ⟨Nat.le_of_ble_eq_true g4, g1, Nat.le_of_ble_eq_true g2, Nat.le_of_ble_eq_true g3⟩
theorem twice_all : blk (fun n => Nat.ble n 0 || (Nat.ble 4001 n || Nat.beq (gi (2 * n)) (gi n + 4))) = true := by decide +kernel
/-- TWICE AS LOUD, FOUR STEPS. -/
theorem gi_twice {n : Nat} (h0 : 0 < n) (h : n ≤ 4000) : gi (2 * n) = gi n + 4 := by
  have := blk_at twice_all n (by omega)
  rw [Bool.or_eq_true, Bool.or_eq_true] at this
  rcases this with g | g | g
  · have := Nat.le_of_ble_eq_true g; omega
  · have := Nat.le_of_ble_eq_true g; omega
  · exact Nat.eq_of_beq_eq_true g
theorem up_all : blk (fun n => Nat.ble 8000 n || Nat.ble (gi n) (gi (n + 1))) = true := by decide +kernel
/-- A greater number is no less loud. -/
theorem gi_up {n m : Nat} (h : n ≤ m) (hm : m ≤ 8000) : gi n ≤ gi m := by
  induction m with
  | zero => obtain rfl : n = 0 := by omega
            exact Nat.le_refl _
  | succ m ih =>
    rcases Nat.lt_or_ge m n with g | g
    · obtain rfl : n = m + 1 := by omega
      exact Nat.le_refl _
    · have h1 := ih g (by omega)
      have := blk_at up_all m (by omega)
      rw [Bool.or_eq_true] at this
      rcases this with g | g
      · have := Nat.le_of_ble_eq_true g; omega
      · exact Nat.le_trans h1 (Nat.le_of_ble_eq_true g)

/-- The greatest power, and how many fourths of it. -/
theorem fourths {n p q : Nat} (hp : 0 < p) (h0 : q * p ≤ 4 * (n - p)) (h1 : 4 * (n - p) < (q + 1) * p) : (n - p) * 4 / p = q := by
  rw [Nat.mul_comm (n - p) 4]
  exact Nat.div_eq_of_lt_le h0 h1

end Go.Proofs.YtjojeifoddonnakDoor.Gai

/-
  The numbers of chapter 16: a frame of bands, what it tells, and its faults. No program here.
-/
namespace Go.Proofs.YtjojeifoddonnakDoor.Frm
open Go.Proofs.YtjojeifoddonnakDoor.Tre Go.Proofs.YtjojeifoddonnakDoor.Bnd Go.Proofs.YtjojeifoddonnakDoor.Pls Go.Proofs.YtjojeifoddonnakDoor.Gai Go.Proofs.YtjojeifoddonnakDoor.Shr
set_option linter.unusedVariables false

/-- A part: its gain, its pulses. -/
abbrev Prt := Int × List Int
def prt (ps : List Prt) (i : Nat) : Prt := ps.getD i (0, [])
theorem prt_get {ps : List Prt} {i : Nat} (h : i < ps.length) : prt ps i = ps[i] := by simp [prt, h]
theorem prt_append {ps : List Prt} {p : Prt} {i : Nat} (h : i < ps.length) : prt (ps ++ [p]) i = prt ps i := by
  unfold prt
  rw [List.getD_eq_getElem?_getD, List.getD_eq_getElem?_getD, List.getElem?_append_left h]
theorem prt_last (ps : List Prt) (p : Prt) : prt (ps ++ [p]) ps.length = p := by simp [prt]
theorem parts_eq {ps qs : List Prt} (hl : ps.length = qs.length) (h : ∀ i, i < ps.length → prt ps i = prt qs i) : ps = qs := by
  apply List.ext_getElem hl
  intro i h1 h2
  have := h i h1
  rwa [prt_get h1, prt_get h2] at this

/-- The values of gains; how many pulses they get. -/
def vals (gs : List Int) : List Int := gs.map fun g => (vl g.toNat : Int)
theorem vals_length (gs : List Int) : (vals gs).length = gs.length := by simp [vals]
theorem vals_at (gs : List Int) {i : Nat} (h : i < gs.length) : at0 (vals gs) i = (vl (at0 gs i).toNat : Int) := by
  unfold at0 vals
  rw [List.getElem?_map, List.getElem?_eq_getElem h]
  rfl
def gns (ps : List Prt) : List Int := ps.map Prod.fst
theorem gns_length (ps : List Prt) : (gns ps).length = ps.length := by simp [gns]
theorem gns_at {ps : List Prt} {i : Nat} (h : i < ps.length) : at0 (gns ps) i = (prt ps i).1 := by
  unfold at0 gns
  rw [List.getElem?_map, List.getElem?_eq_getElem h, prt_get h]
  rfl
def given (gs s : List Int) (B : Int) : List Int := share s (vals gs) B
/-- The gains of bands. -/
def gls (ll : List (List Int)) : List Int := ll.map fun b => (gi (loud b) : Int)
theorem gls_length (ll : List (List Int)) : (gls ll).length = ll.length := by simp [gls]
theorem gls_at {ll : List (List Int)} {i : Nat} (h : i < ll.length) : at0 (gls ll) i = (gi (loud (rowAt ll i)) : Int) := by
  unfold at0 gls
  rw [List.getElem?_map, List.getElem?_eq_getElem h, rowAt_get h]
  rfl
/-- A frame that is made of bands. -/
def Made (ll : List (List Int)) (s : List Int) (B : Int) (ps : List Prt) : Prop :=
  ps.length = ll.length ∧ ∀ i, i < ll.length → (prt ps i).1 = (gi (loud (rowAt ll i)) : Int) ∧ Nea.Near (rowAt ll i) (at0 (given (gls ll) s B) i).toNat (prt ps i).2
theorem Made.one {ll : List (List Int)} {s : List Int} {B : Int} {ps qs : List Prt} (h : Made ll s B ps) (h' : Made ll s B qs) : ps = qs := by
  refine parts_eq (h.1.trans h'.1.symm) fun i hi => ?_
  rw [h.1] at hi
  obtain ⟨e1, e2⟩ := h.2 i hi
  obtain ⟨e3, e4⟩ := h'.2 i hi
  exact Prod.ext (e1.trans e3.symm) (e2.one e4)
theorem Made.gns {ll : List (List Int)} {s : List Int} {B : Int} {ps : List Prt} (h : Made ll s B ps) : gns ps = gls ll := by
  refine eq_of_at (by rw [gns_length, gls_length, h.1]) fun i hi => ?_
  rw [gns_length] at hi
  rw [gns_at hi, gls_at (by rw [← h.1]; exact hi)]
  exact (h.2 i (by rw [← h.1]; exact hi)).1

/-- Too loud. -/
def tooLoud (b : List Int) : Bool := decide (8000 < loud b)
/-- The fault of samples, sizes and bits. -/
def encF (l s : List Int) (B : Int) : Int :=
  if bf s = 0 then (if l.length = total s ∧ total s % 2 = 0 then (if l.any (out 1000) = false ∧ 0 ≤ B ∧ B ≤ 400 then (if (cuts (Lap.lap l) s).any tooLoud = true then 4 else 0) else 1) else 3) else bf s
theorem encF_zero {l s : List Int} {B : Int} : encF l s B = 0 ↔ bf s = 0 ∧ l.length = total s ∧ total s % 2 = 0 ∧ In 1000 l ∧ 0 ≤ B ∧ B ≤ 400 ∧ ∀ i, i < s.length → loud (rowAt (cuts (Lap.lap l) s) i) ≤ 8000 := by
  unfold encF
  constructor
  · intro h
    split at h
    · rename_i h1
      split at h
      · rename_i h2
        split at h
        · rename_i h3
          split at h
          · omega
          · rename_i h4
            refine ⟨h1, h2.1, h2.2, in_of_any h3.1, h3.2.1, h3.2.2, fun i hi => ?_⟩
            rw [Bool.not_eq_true, List.any_eq_false] at h4
            have hl : i < (cuts (Lap.lap l) s).length := by rw [cuts_length]; exact hi
            have := h4 _ (List.getElem_mem hl)
            rw [← rowAt_get hl] at this
            simpa [tooLoud] using this
        · omega
      · omega
    · exact absurd h (by assumption)
  · intro ⟨h1, h2, h3, h4, h5, h6, h7⟩
    rw [if_pos h1, if_pos ⟨h2, h3⟩, if_pos ⟨any_of_in h4, h5, h6⟩, if_neg]
    rw [Bool.not_eq_true, List.any_eq_false]
    intro b hb
    obtain ⟨i, hi, rfl⟩ := List.getElem_of_mem hb
    have := h7 i (by rwa [cuts_length] at hi)
    rw [rowAt_get hi] at this
    simp [tooLoud]
    omega
theorem total_even {s l : List Int} (h1 : l.length = total s) (h2 : total s % 2 = 0) : l.length = 2 * (l.length / 2) := by omega

/-- A gain that there is. -/
def gok (g : Int) : Bool := decide (0 ≤ g) && decide (g ≤ 53) && vo g.toNat
/-- One by one: a gain, pulses. -/
def oneF : List Prt → Int
  | [] => 0
  | p :: ps => if gok p.1 = true then (if fault p.2 = 0 then oneF ps else fault p.2) else 1
/-- One by one: pulses, a gain. -/
def twoF : List Prt → Int
  | [] => 0
  | p :: ps => if fault p.2 = 0 then (if gok p.1 = true then twoF ps else 1) else fault p.2
/-- Each has as many numbers as its size. -/
def Fits (ps : List Prt) (s : List Int) : Prop := ∀ i, i < ps.length → ((prt ps i).2.length : Int) = at0 s i
/-- Each has as many pulses as are given to it. -/
def Gets (ps : List Prt) (k : List Int) : Prop := ∀ i, i < ps.length → (loud (prt ps i).2 : Int) = at0 k i
/-- The fault of a frame, as a word of what it is. -/
def FrmF (ps : List Prt) (s : List Int) (B e : Int) : Prop :=
  (bf s ≠ 0 ∧ e = bf s) ∨ (bf s = 0 ∧ ((ps.length ≠ s.length ∧ e = 3) ∨ (ps.length = s.length ∧ ((¬ Fits ps s ∧ e = 3) ∨ (Fits ps s ∧ ((oneF ps ≠ 0 ∧ e = oneF ps) ∨ (oneF ps = 0 ∧ ((¬ (0 ≤ B ∧ B ≤ 400) ∧ e = 1) ∨ ((0 ≤ B ∧ B ≤ 400) ∧ ((¬ Gets ps (given (gns ps) s B) ∧ e = 3) ∨ (Gets ps (given (gns ps) s B) ∧ e = 0)))))))))))
theorem FrmF.one {ps : List Prt} {s : List Int} {B e e' : Int} (h : FrmF ps s B e) (h' : FrmF ps s B e') : e = e' := by
  unfold FrmF at h h'
  by_cases h1 : bf s = 0 <;> by_cases h2 : ps.length = s.length <;> by_cases h3 : Fits ps s <;> by_cases h4 : oneF ps = 0 <;> by_cases h5 : 0 ≤ B ∧ B ≤ 400 <;> by_cases h6 : Gets ps (given (gns ps) s B) <;> simp_all

/-- What a part tells. -/
def tl (v k x : Int) : Int := x.sign * ((x.natAbs : Int) * v / k)
def told (p : Prt) : List Int := p.2.map (tl (vl p.1.toNat) (loud p.2))
theorem told_length (p : Prt) : (told p).length = p.2.length := by simp [told]
def all (ps : List Prt) : List Int := (ps.map told).flatten
def long (ps : List Prt) : Nat := ((ps.map fun p => p.2.length)).sum
theorem all_length (ps : List Prt) : (all ps).length = long ps := by
  unfold all long
  rw [List.length_flatten, List.map_map]
  congr 1
  exact List.map_congr_left fun p _ => told_length p
/-- The fault of a frame that is to be told. -/
def decF (ps : List Prt) : Int :=
  if ps.length = 0 then 5 else if 8 < ps.length ∨ 32 < long ps then 4 else if twoF ps = 0 then (if long ps % 2 = 0 then (if (all ps).any (out 4000) = true then 1 else 0) else 3) else twoF ps

end Go.Proofs.YtjojeifoddonnakDoor.Frm

/-
  More numbers of chapter 16: what is made is right. No program here.
-/
namespace Go.Proofs.YtjojeifoddonnakDoor.Frm
open Go.Proofs.YtjojeifoddonnakDoor.Tre Go.Proofs.YtjojeifoddonnakDoor.Bnd Go.Proofs.YtjojeifoddonnakDoor.Pls Go.Proofs.YtjojeifoddonnakDoor.Gai Go.Proofs.YtjojeifoddonnakDoor.Shr
set_option linter.unusedVariables false

theorem oneF_none' {ps : List Prt} (h : ∀ i, i < ps.length → gok (prt ps i).1 = true ∧ fault (prt ps i).2 = 0) : oneF ps = 0 := by
  induction ps with
  | nil => rfl
  | cons p ps ih =>
    have h0 : gok p.1 = true ∧ fault p.2 = 0 := h 0 (by simp)
    rw [oneF, if_pos h0.1, if_pos h0.2]
    exact ih fun i hi => h (i + 1) (by simpa using hi)
theorem twoF_none' {ps : List Prt} (h : ∀ i, i < ps.length → gok (prt ps i).1 = true ∧ fault (prt ps i).2 = 0) : twoF ps = 0 := by
  induction ps with
  | nil => rfl
  | cons p ps ih =>
    have h0 : gok p.1 = true ∧ fault p.2 = 0 := h 0 (by simp)
    rw [twoF, if_pos h0.2, if_pos h0.1]
    exact ih fun i hi => h (i + 1) (by simpa using hi)
theorem gok_gi {n : Nat} (h : n ≤ 8000) : gok (gi n : Int) = true := by
  have h := gi_near h
  unfold gok
  rw [Int.toNat_natCast, h.2.1]
  simp
  omega
/-- As many numbers as the first sizes say. -/
theorem long_pre {ps : List Prt} {s : List Int} (hl : ps.length = s.length) (h : ∀ i, i < ps.length → ((prt ps i).2.length : Int) = at0 s i) : ∀ k, k ≤ ps.length → long (ps.take k) = pre s k := by
  intro k
  induction k with
  | zero => intro _; rfl
  | succ k ih =>
    intro hk
    have e : ps.take (k + 1) = ps.take k ++ [prt ps k] := by rw [List.take_succ_eq_append_getElem (by omega), prt_get (by omega)]
    have h1 : long (ps.take (k + 1)) = long (ps.take k) + (prt ps k).2.length := by
      unfold long
      rw [e, List.map_append, List.sum_append]
      simp
    rw [h1, ih (by omega), pre_succ]
    have := h k (by omega)
    omega

/-- What is made is right. -/
structure Right (s : List Int) (B : Int) (ps : List Prt) : Prop where
  len : ps.length = s.length
  fit : ∀ i, i < ps.length → ((prt ps i).2.length : Int) = at0 s i
  ok : ∀ i, i < ps.length → gok (prt ps i).1 = true ∧ fault (prt ps i).2 = 0
  gets : ∀ i, i < ps.length → (loud (prt ps i).2 : Int) = at0 (given (gns ps) s B) i
theorem made_right {l s : List Int} {B : Int} {ps : List Prt} (h : encF l s B = 0) (hm : Made (cuts (Lap.lap l) s) s B ps) : Right s B ps := by
  obtain ⟨h1, h2, h3, h4, h5, h6, h7⟩ := encF_zero.1 h
  obtain ⟨n0, n8, hsz, n32⟩ := bf_ok h1
  have hll : (Lap.lap l).length = l.length := Lap.lap_length (by omega)
  have hsh := shaped_cuts (l := Lap.lap l) hsz (by rw [hll]; exact h2.symm)
  have hlen : ps.length = s.length := by rw [hm.1, cuts_length]
  have hgv : gns ps = gls (cuts (Lap.lap l) s) := hm.gns
  have hinv : Inv s (vals (gns ps)) B (given (gns ps) s B) := (share_is (d := vals (gns ps)) hsz n8 h5).1
  have key : ∀ i, i < ps.length → (at0 (given (gns ps) s B) i).toNat = 0 ∨ 0 < loud (rowAt (cuts (Lap.lap l) s) i) := fun i hi => by
    by_cases hz : loud (rowAt (cuts (Lap.lap l) s) i) = 0
    · left
      have e : at0 (vals (gns ps)) i = 0 := by
        rw [vals_at _ (by rw [gns_length]; exact hi), hgv, gls_at (by rw [cuts_length, ← hlen]; exact hi), hz]
        rfl
      rw [hinv.low i (by rw [hinv.len, ← hlen]; exact hi) e]
      rfl
    · right; omega
  have hpl : ∀ i, i < ps.length → 0 ≤ at0 (given (gns ps) s B) i ∧ at0 (given (gns ps) s B) i ≤ 8 := fun i hi => hinv.pls i (by rw [hinv.len, ← hlen]; exact hi)
  have hnr : ∀ i, i < ps.length → Nea.Near (rowAt (cuts (Lap.lap l) s) i) (at0 (given (gns ps) s B) i).toNat (prt ps i).2 := fun i hi => by
    rw [hgv]
    exact (hm.2 i (by rw [cuts_length, ← hlen]; exact hi)).2
  have hld : ∀ i, i < ps.length → loud (prt ps i).2 = (at0 (given (gns ps) s B) i).toNat := fun i hi => (hnr i hi).loud (key i hi)
  have hfit : ∀ i, i < ps.length → ((prt ps i).2.length : Int) = at0 s i := fun i hi => by
    rw [(hnr i hi).len]
    exact hsh.2 i (by rw [← hlen]; exact hi)
  refine ⟨hlen, hfit, fun i hi => ⟨?_, ?_⟩, fun i hi => ?_⟩
  · rw [(hm.2 i (by rw [cuts_length, ← hlen]; exact hi)).1]
    exact gok_gi (h7 i (by rw [← hlen]; exact hi))
  · have e1 := hld i hi
    have e2 := hpl i hi
    have e3 := hfit i hi
    have e4 := hsz i (by rw [← hlen]; exact hi)
    exact fault_none (by omega) (loud_all (by omega)) (by omega)
  · have e1 := hld i hi
    have e2 := hpl i hi
    omega
theorem Right.frm {s : List Int} {B : Int} {ps : List Prt} (h : Right s B ps) (h1 : bf s = 0) (h5 : 0 ≤ B ∧ B ≤ 400) : FrmF ps s B 0 :=
  Or.inr ⟨h1, Or.inr ⟨h.len, Or.inr ⟨h.fit, Or.inr ⟨oneF_none' h.ok, Or.inr ⟨h5, Or.inr ⟨h.gets, rfl⟩⟩⟩⟩⟩⟩
theorem Right.long {s : List Int} {B : Int} {ps : List Prt} (h : Right s B ps) : long ps = total s := by
  have := long_pre h.len h.fit ps.length (Nat.le_refl _)
  rw [List.take_length] at this
  rw [this, h.len]
  rfl
/-- Told, it is refused only because a number is too great. -/
theorem Right.dec {s : List Int} {B : Int} {ps : List Prt} (h : Right s B ps) (h1 : bf s = 0) (h2 : total s % 2 = 0) : decF ps = if (all ps).any (out 4000) = true then 1 else 0 := by
  obtain ⟨n0, n8, hsz, n32⟩ := bf_ok h1
  unfold decF
  rw [if_neg (by rw [h.len]; omega), if_neg (by rw [h.len, h.long]; omega), if_pos (twoF_none' h.ok), if_pos (by rw [h.long]; exact h2)]

/-- Numbers that are all 0. -/
theorem loud_zero {l : List Int} (h : loud l = 0) : l = List.replicate l.length 0 := by
  induction l with
  | nil => rfl
  | cons x l ih =>
    simp only [loud] at h
    have hx : x = 0 := by omega
    have hl := ih (by omega)
    rw [hx, List.length_cons, List.replicate_succ, ← hl]
theorem loud_rep (n : Nat) : loud (List.replicate n 0) = 0 := by
  induction n with
  | zero => rfl
  | succ n ih => rw [List.replicate_succ]; simp only [loud]; rw [ih]; rfl
theorem lap_zeros {n : Nat} (h : n % 2 = 0) : Lap.lap (List.replicate n 0) = List.replicate n 0 := by
  obtain ⟨m, rfl⟩ : ∃ m, n = 2 * m := ⟨n / 2, by omega⟩
  rw [Lap.lap_flat, List.replicate_append_replicate]
  congr 1
  omega
theorem unlap_zeros {n : Nat} (h : n % 2 = 0) : Lap.unlap (List.replicate n 0) = List.replicate n 0 := by
  have h1 := Lap.unlap_lap (l := List.replicate n (0 : Int)) (by rw [List.length_replicate]; omega)
  rwa [lap_zeros h] at h1
theorem told_zero {p : Prt} (h : loud p.2 = 0) : told p = List.replicate p.2.length 0 := by
  unfold told
  rw [h]
  refine List.eq_replicate_iff.2 ⟨by simp, fun x hx => ?_⟩
  obtain ⟨y, _, rfl⟩ := List.mem_map.1 hx
  simp [tl]
theorem all_zero {ps : List Prt} (h : ∀ i, i < ps.length → loud (prt ps i).2 = 0) : all ps = List.replicate (long ps) 0 := by
  induction ps with
  | nil => rfl
  | cons p ps ih =>
    have h0 : loud p.2 = 0 := h 0 (by simp)
    have h1 := ih fun i hi => h (i + 1) (by simpa using hi)
    have e1 : all (p :: ps) = told p ++ all ps := rfl
    have e2 : long (p :: ps) = p.2.length + long ps := by simp [long]
    rw [e1, e2, told_zero h0, h1, List.replicate_append_replicate]
/-- Silence: no gain, no pulse, told as silence. -/
theorem silent_zero {s : List Int} {B : Int} (h1 : bf s = 0) (h2 : total s % 2 = 0) (h5 : 0 ≤ B) (h6 : B ≤ 400) : encF (List.replicate (total s) 0) s B = 0 := by
  refine encF_zero.2 ⟨h1, by rw [List.length_replicate], h2, fun n hn => ?_, h5, h6, fun i hi => ?_⟩
  · obtain rfl := (List.mem_replicate.1 hn).2
    omega
  · rw [lap_zeros h2, cuts_at _ _ hi]
    unfold cutAt
    rw [List.drop_replicate, List.take_replicate, loud_rep]
    omega
theorem silent_made {s : List Int} {B : Int} {ps : List Prt} (h1 : bf s = 0) (h2 : total s % 2 = 0) (h5 : 0 ≤ B) (h6 : B ≤ 400) (hm : Made (cuts (Lap.lap (List.replicate (total s) 0)) s) s B ps) :
    Right s B ps ∧ (∀ i, i < ps.length → (prt ps i).1 = 0 ∧ loud (prt ps i).2 = 0) ∧ decF ps = 0 ∧ Lap.unlap (all ps) = List.replicate (total s) 0 := by
  obtain ⟨n0, n8, hsz, n32⟩ := bf_ok h1
  have hr := made_right (silent_zero h1 h2 h5 h6) hm
  have hlen := hr.len
  have hz : ∀ i, i < s.length → loud (rowAt (cuts (Lap.lap (List.replicate (total s) 0)) s) i) = 0 := fun i hi => by
    rw [lap_zeros h2, cuts_at _ _ hi]
    unfold cutAt
    rw [List.drop_replicate, List.take_replicate, loud_rep]
  have hg : ∀ i, i < ps.length → (prt ps i).1 = 0 := fun i hi => by
    rw [(hm.2 i (by rw [cuts_length, ← hlen]; exact hi)).1, hz i (by rw [← hlen]; exact hi)]
    rfl
  have hinv : Inv s (vals (gns ps)) B (given (gns ps) s B) := (share_is (d := vals (gns ps)) hsz n8 h5).1
  have hl : ∀ i, i < ps.length → loud (prt ps i).2 = 0 := fun i hi => by
    have e := hr.gets i hi
    have e2 : at0 (vals (gns ps)) i = 0 := by
      rw [vals_at _ (by rw [gns_length]; exact hi), gns_at hi, hg i hi]
      rfl
    rw [hinv.low i (by rw [hinv.len, ← hlen]; exact hi) e2] at e
    omega
  have ha := all_zero hl
  rw [hr.long] at ha
  refine ⟨hr, fun i hi => ⟨hg i hi, hl i hi⟩, ?_, by rw [ha]; exact unlap_zeros h2⟩
  rw [hr.dec h1 h2, if_neg]
  rw [Bool.not_eq_true, ha]
  refine any_of_in fun n hn => ?_
  obtain rfl := (List.mem_replicate.1 hn).2
  omega

end Go.Proofs.YtjojeifoddonnakDoor.Frm

/-
  More numbers of chapter 16: what a frame tells of each band. No program here.
-/
namespace Go.Proofs.YtjojeifoddonnakDoor.Frm
open Go.Proofs.YtjojeifoddonnakDoor.Tre Go.Proofs.YtjojeifoddonnakDoor.Bnd Go.Proofs.YtjojeifoddonnakDoor.Pls Go.Proofs.YtjojeifoddonnakDoor.Gai Go.Proofs.YtjojeifoddonnakDoor.Shr
set_option linter.unusedVariables false

/-- How loud told pulses are. -/
def qs (v k : Nat) : List Int → Nat
  | [] => 0
  | x :: l => x.natAbs * v / k + qs v k l
theorem qs_append (v k : Nat) (l m : List Int) : qs v k (l ++ m) = qs v k l + qs v k m := by
  induction l with
  | nil => simp [qs]
  | cons x l ih => rw [List.cons_append, qs, qs, ih]; omega
theorem qs_take {v k : Nat} {l : List Int} {j : Nat} (h : j < l.length) : qs v k (l.take (j + 1)) = qs v k (l.take j) + (at0 l j).natAbs * v / k := by
  have e : at0 l j = l[j] := by simp [at0, h]
  rw [List.take_succ_eq_append_getElem h, qs_append, e]
  simp [qs]
theorem qs_up (v k : Nat) (l : List Int) : k * qs v k l ≤ v * loud l := by
  induction l with
  | nil => simp [qs]
  | cons x l ih =>
    have h := Nat.div_mul_le_self (x.natAbs * v) k
    rw [qs, loud, Nat.mul_add, Nat.mul_add, Nat.mul_comm k, Nat.mul_comm v x.natAbs]
    omega
theorem qs_lo {v k : Nat} (hk : 0 < k) (l : List Int) : v * loud l + l.length ≤ k * qs v k l + l.length * k := by
  induction l with
  | nil => simp [qs, loud]
  | cons x l ih =>
    have h := Nat.div_add_mod (x.natAbs * v) k
    have h2 := Nat.mod_lt (x.natAbs * v) hk
    rw [qs, loud, Nat.mul_add, Nat.mul_add, List.length_cons, Nat.add_mul, Nat.mul_comm v x.natAbs]
    omega
/-- No louder than the gain, nor by its pulses softer. -/
theorem qs_bound {v : Nat} {l : List Int} (hk : 0 < loud l) : qs v (loud l) l ≤ v ∧ v + 1 ≤ qs v (loud l) l + l.length := by
  have h1 := qs_up v (loud l) l
  have h2 := qs_lo (v := v) hk l
  refine ⟨Nat.le_of_mul_le_mul_left (by rw [Nat.mul_comm (loud l) v]; exact h1) hk, ?_⟩
  have hl : 0 < l.length := by
    cases l with
    | nil => simp [loud] at hk
    | cons x l => simp
  apply Decidable.byContradiction
  intro hn
  have h3 : qs v (loud l) l + l.length ≤ v := by omega
  have h4 : loud l * (qs v (loud l) l + l.length) ≤ loud l * v := Nat.mul_le_mul_left _ h3
  rw [Nat.mul_add, Nat.mul_comm (loud l) l.length, Nat.mul_comm (loud l) v] at h4
  omega
theorem qs_none (v : Nat) (l : List Int) : qs v 0 l = 0 := by
  induction l with
  | nil => rfl
  | cons x l ih => rw [qs, ih]; simp
theorem tl_abs (v k : Nat) (x : Int) : (tl (v : Int) (k : Int) x).natAbs = x.natAbs * v / k := by
  have e : ((x.natAbs : Int) * (v : Int) / (k : Int)) = ((x.natAbs * v / k : Nat) : Int) := by rw [Int.natCast_ediv, Int.natCast_mul]
  unfold tl
  rw [e, Int.natAbs_mul, Int.natAbs_natCast]
  rcases Int.lt_trichotomy x 0 with h | h | h
  · rw [Int.sign_eq_neg_one_of_neg h]; simp
  · subst h; simp
  · rw [Int.sign_eq_one_of_pos h]; simp
/-- Where a band's numbers are told. -/
theorem all_at {s : List Int} {B : Int} {ps : List Prt} (h : Right s B ps) {i j : Nat} (hi : i < ps.length) (hj : j < (prt ps i).2.length) :
    at0 (all ps) (pre s i + j) = tl (vl (prt ps i).1.toNat) (loud (prt ps i).2) (at0 (prt ps i).2 j) := by
  have e : ps = ps.take i ++ prt ps i :: ps.drop (i + 1) := by
    conv => lhs; rw [← List.take_append_drop i ps]
    rw [List.drop_eq_getElem_cons hi, prt_get hi]
  have e2 : all ps = all (ps.take i) ++ (told (prt ps i) ++ all (ps.drop (i + 1))) := by
    conv => lhs; rw [e]
    unfold all
    rw [List.map_append, List.map_cons, List.flatten_append, List.flatten_cons]
  have e3 : (all (ps.take i)).length = pre s i := by rw [all_length]; exact long_pre h.len h.fit i (by omega)
  have e4 : at0 (prt ps i).2 j = (prt ps i).2[j] := by simp [at0, hj]
  unfold at0
  rw [e2, List.getElem?_append_right (by omega), e3, Nat.add_sub_cancel_left, List.getElem?_append_left (by rw [told_length]; exact hj)]
  unfold told
  rw [List.getElem?_map, List.getElem?_eq_getElem hj, ← e4]
  rfl
theorem all_abs {s : List Int} {B : Int} {ps : List Prt} (h : Right s B ps) {i j : Nat} (hi : i < ps.length) (hj : j < (prt ps i).2.length) :
    (at0 (all ps) (pre s i + j)).natAbs = (at0 (prt ps i).2 j).natAbs * vl (prt ps i).1.toNat / loud (prt ps i).2 := by
  rw [all_at h hi hj, tl_abs]
/-- The pulses of all bands. -/
def lds (ps : List Prt) : List Int := ps.map fun p => (loud p.2 : Int)
theorem lds_length (ps : List Prt) : (lds ps).length = ps.length := by simp [lds]
theorem lds_at {ps : List Prt} {i : Nat} (h : i < ps.length) : at0 (lds ps) i = (loud (prt ps i).2 : Int) := by
  unfold at0 lds
  rw [List.getElem?_map, List.getElem?_eq_getElem h, prt_get h]
  rfl
theorem Right.costs {s : List Int} {B : Int} {ps : List Prt} (h : Right s B ps) (h1 : bf s = 0) (h5 : 0 ≤ B) : lds ps = given (gns ps) s B ∧ costF s (lds ps) = 0 ∧ (cost s (lds ps) : Int) ≤ B := by
  obtain ⟨n0, n8, hsz, n32⟩ := bf_ok h1
  have hinv : Inv s (vals (gns ps)) B (given (gns ps) s B) := (share_is (d := vals (gns ps)) hsz n8 h5).1
  have e : lds ps = given (gns ps) s B := by
    refine eq_of_at (by rw [lds_length, hinv.len, h.len]) fun i hi => ?_
    rw [lds_length] at hi
    rw [lds_at hi, h.gets i hi]
  refine ⟨e, ?_, by rw [e]; exact hinv.cst⟩
  refine costF_zero.2 ⟨h1, by rw [lds_length, h.len], fun i hi => ?_⟩
  rw [e] at hi ⊢
  exact hinv.pls i hi
/-- The fact of two eights. -/
theorem fact_enc : encF [8, 8] [2] 10 = 0 := by decide +kernel
theorem fact_cuts : cuts (Lap.lap [8, 8]) [2] = [[8, 0]] := by decide +kernel
theorem fact_given : given (gls [[8, 0]]) [2] 10 = [8] := by decide +kernel
theorem fact_near : Nea.Near [8, 0] 8 [8, 0] := ⟨fun _ => false, by
  have e : Nea.lft [8, 0] 8 = 0 := by decide +kernel
  rw [e]
  exact Nea.pick_zero _ _, by decide +kernel⟩
theorem fact_made {ps : List Prt} (h : Made (cuts (Lap.lap [8, 8]) [2]) [2] 10 ps) : ps = [(13, [8, 0])] := by
  rw [fact_cuts] at h
  refine h.one ⟨rfl, fun i hi => ?_⟩
  obtain rfl : i = 0 := by simpa using hi
  refine ⟨by decide +kernel, ?_⟩
  rw [fact_given]
  exact fact_near

end Go.Proofs.YtjojeifoddonnakDoor.Frm

/-
  The numbers of chapter 17: a frame in bits, and read again. No program here.
-/
namespace Go.Proofs.YtjojeifoddonnakDoor.Pck
open Go.Proofs.YtjojeifoddonnakDoor.Tre Go.Proofs.YtjojeifoddonnakDoor.Bnd Go.Proofs.YtjojeifoddonnakDoor.Cnt Go.Proofs.YtjojeifoddonnakDoor.Pls Go.Proofs.YtjojeifoddonnakDoor.Gai Go.Proofs.YtjojeifoddonnakDoor.Shr Go.Proofs.YtjojeifoddonnakDoor.Frm Go.Proofs.YtjojeifoddonnakDoor.Wid
set_option linter.unusedVariables false

theorem oneF_all {ps : List Prt} (h : oneF ps = 0) : ∀ i, i < ps.length → gok (prt ps i).1 = true ∧ fault (prt ps i).2 = 0 := by
  induction ps with
  | nil => intro i hi; simp at hi
  | cons p ps ih =>
    rw [oneF] at h
    split at h
    · rename_i h1
      split at h
      · rename_i h2
        intro i hi
        cases i with
        | zero => exact ⟨h1, h2⟩
        | succ i => exact ih h i (by simpa using hi)
      · rename_i h2; exact absurd h h2
    · omega
theorem frm_zero {ps : List Prt} {s : List Int} {B : Int} (h : FrmF ps s B 0) : bf s = 0 ∧ 0 ≤ B ∧ B ≤ 400 ∧ Right s B ps := by
  rcases h with ⟨h1, h2⟩ | ⟨h1, h⟩
  · exact absurd h2.symm h1
  · rcases h with ⟨_, h2⟩ | ⟨h2, h⟩
    · omega
    · rcases h with ⟨_, h3⟩ | ⟨h3, h⟩
      · omega
      · rcases h with ⟨h4, h5⟩ | ⟨h4, h⟩
        · exact absurd h5.symm h4
        · rcases h with ⟨_, h5⟩ | ⟨h5, h⟩
          · omega
          · rcases h with ⟨_, h6⟩ | ⟨h6, _⟩
            · omega
            · exact ⟨h1, h5.1, h5.2, ⟨h2, h3, oneF_all h4, h6⟩⟩

/-- The ranks, in how many bits; all numbers, all widths; the bits. -/
def rks (ps : List Prt) : List Int := ps.map fun p => rk p.2 (loud p.2)
def wbs (ps : List Prt) : List Int := ps.map fun p => (Bt (loud p.2) p.2.length : Int)
def nums (ps : List Prt) : List Int := gns ps ++ rks ps
def wids (ps : List Prt) : List Int := List.replicate ps.length 6 ++ wbs ps
def pbits (ps : List Prt) : List Int := puts (nums ps) (wids ps)
theorem rks_length (ps : List Prt) : (rks ps).length = ps.length := by simp [rks]
theorem wbs_length (ps : List Prt) : (wbs ps).length = ps.length := by simp [wbs]
theorem nums_length (ps : List Prt) : (nums ps).length = ps.length + ps.length := by unfold nums; rw [List.length_append, gns_length, rks_length]
theorem wids_length (ps : List Prt) : (wids ps).length = ps.length + ps.length := by unfold wids; rw [List.length_append, List.length_replicate, wbs_length]
theorem at0_left {l m : List Int} {i : Nat} (h : i < l.length) : at0 (l ++ m) i = at0 l i := by unfold at0; rw [List.getElem?_append_left h]
theorem at0_right {l m : List Int} {i : Nat} : at0 (l ++ m) (l.length + i) = at0 m i := by unfold at0; rw [List.getElem?_append_right (by omega), Nat.add_sub_cancel_left]
theorem nums_gain {ps : List Prt} {i : Nat} (h : i < ps.length) : at0 (nums ps) i = (prt ps i).1 := by unfold nums; rw [at0_left (by rw [gns_length]; exact h), gns_at h]
theorem nums_rank {ps : List Prt} {i : Nat} (h : i < ps.length) : at0 (nums ps) (ps.length + i) = rk (prt ps i).2 (loud (prt ps i).2) := by
  have e : ps.length + i = (gns ps).length + i := by rw [gns_length]
  unfold nums
  rw [e, at0_right]
  unfold at0 rks
  rw [List.getElem?_map, List.getElem?_eq_getElem h, prt_get h]
  rfl
theorem wids_gain {ps : List Prt} {i : Nat} (h : i < ps.length) : at0 (wids ps) i = 6 := by
  unfold wids
  rw [at0_left (by rw [List.length_replicate]; exact h)]
  simp [at0, h]
theorem wids_rank {ps : List Prt} {i : Nat} (h : i < ps.length) : at0 (wids ps) (ps.length + i) = (Bt (loud (prt ps i).2) (prt ps i).2.length : Int) := by
  have e : ps.length + i = (List.replicate ps.length (6 : Int)).length + i := by rw [List.length_replicate]
  unfold wids
  rw [e, at0_right]
  unfold at0 wbs
  rw [List.getElem?_map, List.getElem?_eq_getElem h, prt_get h]
  rfl

section
variable {ps : List Prt} {s : List Int} {B : Int}
theorem right_in (h : Right s B ps) {i : Nat} (hi : i < ps.length) : (prt ps i).2.length ≤ 6 ∧ loud (prt ps i).2 ≤ 8 ∧ 0 ≤ (prt ps i).1 ∧ (prt ps i).1 ≤ 53 := by
  obtain ⟨h1, h2⟩ := h.ok i hi
  obtain ⟨k1, _, k3⟩ := fault_ok h2
  unfold gok at h1
  simp only [Bool.and_eq_true, decide_eq_true_eq] at h1
  exact ⟨k1, k3, h1.1.1, h1.1.2⟩
/-- Each number goes into its width. -/
theorem pack_fit (h : Right s B ps) : ∀ i, i < (wids ps).length → Fit (at0 (nums ps) i) (at0 (wids ps) i) := by
  intro i hi
  rw [wids_length] at hi
  by_cases e : i < ps.length
  · rw [nums_gain e, wids_gain e]
    have h1 := right_in h e
    refine ⟨by omega, by omega, h1.2.2.1, ?_⟩
    have : (2 : Int) ^ ((6 : Int).toNat) = 64 := by decide
    omega
  · obtain ⟨j, rfl⟩ : ∃ j, i = ps.length + j := ⟨i - ps.length, by omega⟩
    have hj : j < ps.length := by omega
    rw [nums_rank hj, wids_rank hj]
    have h1 := right_in h hj
    have h2 := rk_in _ h1.1 h1.2.1
    have h3 := Bt_is h1.2.1 h1.1
    have h4 := Bt_le h1.2.1 h1.1
    have e2 : ((Bt (loud (prt ps j).2) (prt ps j).2.length : Int)).toNat = Bt (loud (prt ps j).2) (prt ps j).2.length := by omega
    refine ⟨by omega, by omega, h2.1, ?_⟩
    rw [e2]
    have := h3.1
    omega
theorem pack_wds (h : Right s B ps) : Wds (wids ps) := fun i hi => ⟨(pack_fit h i hi).1, (pack_fit h i hi).2.1⟩
theorem pre_gains {j : Nat} (hj : j ≤ ps.length) : pre (wids ps) j = 6 * j := by
  induction j with
  | zero => rfl
  | succ j ih =>
    rw [pre_succ, ih (by omega), wids_gain (by omega)]
    omega
theorem pre_ranks (h : Right s B ps) {j : Nat} (hj : j ≤ ps.length) : pre (wids ps) (ps.length + j) = 6 * ps.length + cs s (lds ps) j := by
  induction j with
  | zero => exact pre_gains (Nat.le_refl _)
  | succ j ih =>
    have hf := h.fit j (by omega)
    rw [← Nat.add_assoc, pre_succ, ih (by omega), wids_rank (by omega)]
    simp only [cs]
    rw [lds_at (by omega), Int.toNat_natCast, Int.toNat_natCast, ← hf, Int.toNat_natCast]
    omega
theorem pack_total (h : Right s B ps) : total (wids ps) = 6 * ps.length + cost s (lds ps) := by
  unfold total cost
  rw [wids_length, pre_ranks h (Nat.le_refl _), h.len]
theorem pack_length (h : Right s B ps) : (pbits ps).length = 6 * ps.length + cost s (lds ps) := by
  unfold pbits
  rw [puts_length _ (pack_wds h), pack_total h]
theorem pack_bit (h : Right s B ps) : Bit (pbits ps) := puts_bit (pack_fit h)
theorem pack_put (h : Right s B ps) : putF (nums ps) (wids ps) = if 400 < 6 * ps.length + cost s (lds ps) then 4 else 0 := by
  unfold putF
  rw [if_pos (by rw [nums_length, wids_length]), if_pos ((pf_zero (by rw [nums_length, wids_length])).2 (pack_fit h))]
  have e := pack_length h
  unfold pbits at e
  rw [e]
end

/-- A beginning of bits, read number by number. -/
theorem read_at {A l ws : List Int} (hl : l.length = ws.length) (hf : ∀ i, i < ws.length → Fit (at0 l i) (at0 ws i)) (hA : A.take (total ws) = puts l ws) {i : Nat} (hi : i < ws.length) :
    num 0 ((A.drop (pre ws i)).take (at0 ws i).toNat) = at0 l i ∧ pre ws i + (at0 ws i).toNat ≤ A.length := by
  have hs : Wds ws := fun i hi => ⟨(hf i hi).1, (hf i hi).2.1⟩
  have hg := gets_puts hl hf
  have h1 : pre ws i + (at0 ws i).toNat ≤ total ws := by rw [← pre_succ]; exact pre_total ws (by omega)
  have h2 : total ws ≤ A.length := by
    have e := congrArg List.length hA
    rw [List.length_take, puts_length l hs] at e
    omega
  have h3 : at0 (gets (puts l ws) ws) i = num 0 (cutAt (puts l ws) ws i) := by unfold gets; exact upto_at _ hi
  rw [hg] at h3
  refine ⟨?_, by omega⟩
  rw [h3, ← hA]
  unfold cutAt
  rw [List.drop_take, List.take_take, Nat.min_eq_left (by omega)]

/-- These bytes are such a frame. -/
def IsP (b : List Int) (s : List Int) (B : Int) (ps : List Prt) : Prop := FrmF ps s B 0 ∧ 6 * ps.length + cost s (lds ps) ≤ 400 ∧ oct (pbits ps) = b
section
variable {b : List Int} {ps : List Prt} {s : List Int} {B : Int}
theorem IsP.begins (h : IsP b s B ps) : (opn b).take (total (wids ps)) = pbits ps := by
  obtain ⟨h1, _, h3⟩ := h
  have hr := (frm_zero h1).2.2.2
  rw [← h3, pack_total hr, ← pack_length hr]
  exact bits_oct (pack_bit hr)
theorem IsP.gain (h : IsP b s B ps) {i : Nat} (hi : i < ps.length) : num 0 (((opn b).drop (6 * i)).take 6) = (prt ps i).1 ∧ 6 * i + 6 ≤ (opn b).length := by
  have hr := (frm_zero h.1).2.2.2
  have h1 := read_at (A := opn b) (by rw [nums_length, wids_length]) (pack_fit hr) h.begins (i := i) (by rw [wids_length]; omega)
  rw [pre_gains (by omega), wids_gain hi, nums_gain hi] at h1
  exact h1
theorem IsP.rank (h : IsP b s B ps) {i : Nat} (hi : i < ps.length) :
    num 0 (((opn b).drop (6 * ps.length + cs s (lds ps) i)).take (Bt (loud (prt ps i).2) (prt ps i).2.length)) = rk (prt ps i).2 (loud (prt ps i).2) ∧ 6 * ps.length + cs s (lds ps) i + Bt (loud (prt ps i).2) (prt ps i).2.length ≤ (opn b).length := by
  have hr := (frm_zero h.1).2.2.2
  have h1 := read_at (A := opn b) (by rw [nums_length, wids_length]) (pack_fit hr) h.begins (i := ps.length + i) (by rw [wids_length]; omega)
  rw [pre_ranks hr (by omega), wids_rank hi, nums_rank hi, Int.toNat_natCast] at h1
  exact h1
theorem IsP.long (h : IsP b s B ps) : b.length ≤ 50 := by
  obtain ⟨h1, h2, h3⟩ := h
  have hr := (frm_zero h1).2.2.2
  rw [← h3, oct_length, pack_length hr]
  omega
/-- Only one frame is so. -/
theorem IsP.one {qs : List Prt} (h : IsP b s B ps) (k : IsP b s B qs) : ps = qs := by
  obtain ⟨z1, z2, z3, hr⟩ := frm_zero h.1
  have kr := (frm_zero k.1).2.2.2
  have hl : ps.length = qs.length := hr.len.trans kr.len.symm
  have hg : gns ps = gns qs := by
    refine eq_of_at (by rw [gns_length, gns_length, hl]) fun i hi => ?_
    rw [gns_length] at hi
    rw [gns_at hi, gns_at (by omega), ← (h.gain hi).1, ← (k.gain (i := i) (by omega)).1]
  have hd : lds ps = lds qs := by rw [(hr.costs z1 z2).1, (kr.costs z1 z2).1, hg]
  refine parts_eq hl fun i hi => ?_
  have hi' : i < qs.length := by omega
  have e1 : (prt ps i).1 = (prt qs i).1 := by rw [← gns_at hi, ← gns_at hi', hg]
  have e2 : loud (prt qs i).2 = loud (prt ps i).2 := by
    have : at0 (lds ps) i = at0 (lds qs) i := by rw [hd]
    rw [lds_at hi, lds_at hi'] at this
    omega
  have e3 : (prt qs i).2.length = (prt ps i).2.length := by
    have f1 := hr.fit i hi
    have f2 := kr.fit i hi'
    omega
  have e4 := (h.rank hi).1
  have e5 := (k.rank hi').1
  rw [← hl, ← hd, e2, e3, e4] at e5
  have h1 := right_in hr hi
  exact Prod.ext e1 (rk_one _ _ h1.1 e3 h1.2.1 e2 e5.symm).symm
end

/-- The fault of packing a frame. -/
def PckF (ps : List Prt) (s : List Int) (B E : Int) : Prop := (E ≠ 0 ∧ FrmF ps s B E) ∨ (FrmF ps s B 0 ∧ E = if 400 < 6 * ps.length + cost s (lds ps) then 4 else 0)
theorem PckF.one {ps : List Prt} {s : List Int} {B E E' : Int} (h : PckF ps s B E) (h' : PckF ps s B E') : E = E' := by
  rcases h with ⟨h1, h2⟩ | ⟨h1, h2⟩
  · rcases h' with ⟨_, k2⟩ | ⟨k1, _⟩
    · exact h2.one k2
    · exact absurd (h2.one k1) h1
  · rcases h' with ⟨k1, k2⟩ | ⟨_, k2⟩
    · exact absurd (k2.one h1) k1
    · rw [h2, k2]
theorem PckF.zero {ps : List Prt} {s : List Int} {B : Int} (h : PckF ps s B 0) : IsP (oct (pbits ps)) s B ps := by
  rcases h with ⟨h1, _⟩ | ⟨h1, h2⟩
  · omega
  · refine ⟨h1, ?_, rfl⟩
    split at h2 <;> omega
theorem IsP.pck {b : List Int} {ps : List Prt} {s : List Int} {B : Int} (h : IsP b s B ps) : PckF ps s B 0 := Or.inr ⟨h.1, by rw [if_neg (by have := h.2.1; omega)]⟩
/-- The fault of bytes that are to be a frame, and the frame. -/
def UnpF (b : List Int) (s : List Int) (B E : Int) (ps : List Prt) : Prop :=
  (bf s ≠ 0 ∧ E = bf s ∧ ps = []) ∨ (bf s = 0 ∧ ((¬ (0 ≤ B ∧ B ≤ 400) ∧ E = 1 ∧ ps = []) ∨ ((0 ≤ B ∧ B ≤ 400) ∧ (((∀ qs, ¬ IsP b s B qs) ∧ E = 2 ∧ ps = []) ∨ (IsP b s B ps ∧ E = 0)))))
theorem UnpF.one {b s : List Int} {B E E' : Int} {ps qs : List Prt} (h : UnpF b s B E ps) (k : UnpF b s B E' qs) : E = E' ∧ ps = qs := by
  rcases h with ⟨h1, h2, h3⟩ | ⟨h1, h⟩
  · rcases k with ⟨_, k2, k3⟩ | ⟨k1, _⟩
    · exact ⟨by rw [h2, k2], by rw [h3, k3]⟩
    · exact absurd k1 h1
  · rcases k with ⟨k1, _⟩ | ⟨_, k⟩
    · exact absurd h1 k1
    · rcases h with ⟨h2, h3, h4⟩ | ⟨h2, h⟩
      · rcases k with ⟨_, k3, k4⟩ | ⟨k2, _⟩
        · exact ⟨by rw [h3, k3], by rw [h4, k4]⟩
        · exact absurd k2 h2
      · rcases k with ⟨k2, _⟩ | ⟨_, k⟩
        · exact absurd h2 k2
        · rcases h with ⟨h3, h4, h5⟩ | ⟨h3, h4⟩
          · rcases k with ⟨_, k4, k5⟩ | ⟨k3, _⟩
            · exact ⟨by rw [h4, k4], by rw [h5, k5]⟩
            · exact absurd k3 (h3 _)
          · rcases k with ⟨k3, _⟩ | ⟨k3, k4⟩
            · exact absurd h3 (k3 _)
            · exact ⟨by rw [h4, k4], h3.one k3⟩

end Go.Proofs.YtjojeifoddonnakDoor.Pck

/-
  More numbers of chapter 17: cut off it is none; silence; how many bytes there are at most. No program here.
-/
namespace Go.Proofs.YtjojeifoddonnakDoor.Pck
open Go.Proofs.YtjojeifoddonnakDoor.Tre Go.Proofs.YtjojeifoddonnakDoor.Bnd Go.Proofs.YtjojeifoddonnakDoor.Cnt Go.Proofs.YtjojeifoddonnakDoor.Pls Go.Proofs.YtjojeifoddonnakDoor.Gai Go.Proofs.YtjojeifoddonnakDoor.Shr Go.Proofs.YtjojeifoddonnakDoor.Frm Go.Proofs.YtjojeifoddonnakDoor.Wid
set_option linter.unusedVariables false

theorem opn_take (b : List Int) {k : Nat} (h : k ≤ b.length) : opn (b.take k) = (opn b).take (8 * k) := by
  have e1 : (b.take k).length = k := by rw [List.length_take]; omega
  unfold opn
  rw [e1, take_upto _ (by omega)]
  refine eq_of_at (by rw [upto_length, upto_length]) fun i hi => ?_
  rw [upto_length] at hi
  rw [upto_at _ hi, upto_at _ hi]
  unfold opnF
  have e2 : at0 (b.take k) (i / 8) = at0 b (i / 8) := by
    unfold at0
    rw [List.getElem?_take]
    rw [if_pos (by omega)]
  rw [e2]
theorem IsP.size {b : List Int} {ps : List Prt} {s : List Int} {B : Int} (h : IsP b s B ps) : b.length = (6 * s.length + cost s (lds ps) + 7) / 8 := by
  have hr := (frm_zero h.1).2.2.2
  rw [← h.2.2, oct_length, pack_length hr, hr.len]
/-- Cut off it is none. -/
theorem IsP.cut {b : List Int} {ps qs : List Prt} {s : List Int} {B : Int} (h : IsP b s B ps) {k : Nat} (hk : k < b.length) (g : IsP (b.take k) s B qs) : False := by
  obtain ⟨z1, z2, z3, hr⟩ := frm_zero h.1
  have kr := (frm_zero g.1).2.2.2
  have hl : ps.length = qs.length := hr.len.trans kr.len.symm
  have hg : gns ps = gns qs := by
    refine eq_of_at (by rw [gns_length, gns_length, hl]) fun i hi => ?_
    rw [gns_length] at hi
    obtain ⟨g1, g2⟩ := g.gain (i := i) (by omega)
    rw [opn_take b (by omega), List.length_take] at g2
    rw [opn_take b (by omega), List.drop_take, List.take_take, Nat.min_eq_left (by omega)] at g1
    rw [gns_at hi, gns_at (by omega), ← (h.gain hi).1, ← g1]
  have hd : lds ps = lds qs := by rw [(hr.costs z1 z2).1, (kr.costs z1 z2).1, hg]
  have e1 := h.size
  have e2 := g.size
  rw [List.length_take, ← hd] at e2
  omega

/-- How many bytes there are at most. -/
def longF (s : List Int) (B : Int) : Int := if bf s = 0 then (if 0 ≤ B ∧ B ≤ 400 then (if 400 < 6 * (s.length : Int) + B then 4 else 0) else 1) else bf s
def longN (s : List Int) (B : Int) : Int := if longF s B = 0 then (6 * (s.length : Int) + B + 7) / 8 else 0
theorem longF_zero {s : List Int} {B : Int} : longF s B = 0 ↔ bf s = 0 ∧ 0 ≤ B ∧ B ≤ 400 ∧ 6 * (s.length : Int) + B ≤ 400 := by
  unfold longF
  constructor
  · intro h
    split at h
    · rename_i h1
      split at h
      · rename_i h2
        split at h
        · omega
        · exact ⟨h1, h2.1, h2.2, by omega⟩
      · omega
    · rename_i h1; exact absurd h h1
  · intro ⟨h1, h2, h3, h4⟩
    rw [if_pos h1, if_pos ⟨h2, h3⟩, if_neg (by omega)]
/-- What is right goes, where it may not be too long, and is no longer than told. -/
theorem right_long {ps : List Prt} {s : List Int} {B : Int} (h : FrmF ps s B 0) (hl : longF s B = 0) : PckF ps s B 0 ∧ ((oct (pbits ps)).length : Int) ≤ longN s B := by
  obtain ⟨z1, z2, z3, hr⟩ := frm_zero h
  obtain ⟨_, _, _, h4⟩ := longF_zero.1 hl
  have hc := (hr.costs z1 z2).2.2
  have hln := hr.len
  refine ⟨Or.inr ⟨h, by rw [if_neg (by omega)]⟩, ?_⟩
  unfold longN
  rw [if_pos hl, oct_length, pack_length hr]
  omega
theorem right_fault {ps : List Prt} {s : List Int} {B E : Int} (h : FrmF ps s B 0) (hE : PckF ps s B E) : E = 0 ∨ E = 4 := by
  rcases hE with ⟨h1, h2⟩ | ⟨_, h2⟩
  · exact absurd (h2.one h) h1
  · split at h2
    · exact Or.inr h2
    · exact Or.inl h2

/-- Noughts. -/
theorem bin_zero (w : Nat) : bin w 0 = List.replicate w 0 := by
  induction w with
  | zero => rfl
  | succ w ih => rw [bin]; simp [ih, List.replicate_succ]
theorem num_rep (n : Nat) : num 0 (List.replicate n 0) = 0 := by
  induction n with
  | zero => rfl
  | succ n ih => rw [List.replicate_succ, num]; simpa using ih
theorem oct_zeros (n : Nat) : oct (List.replicate n 0) = List.replicate ((n + 7) / 8) 0 := by
  refine eq_of_at (by rw [oct_length, List.length_replicate, List.length_replicate]) fun i hi => ?_
  rw [oct_length, List.length_replicate] at hi
  unfold oct
  rw [List.length_replicate, upto_at _ hi]
  have e : eight (List.replicate n 0) i = List.replicate 8 0 := by
    refine eq_of_at (by rw [eight_length, List.length_replicate]) fun j hj => ?_
    rw [eight_length] at hj
    unfold eight
    rw [upto_at _ hj]
    have e1 : ∀ m k : Nat, at0 (List.replicate m (0 : Int)) k = 0 := fun m k => by
      unfold at0
      rw [List.getElem?_replicate]
      split <;> rfl
    rw [e1, e1]
  rw [e, num_rep]
  unfold at0
  rw [List.getElem?_replicate]
  split <;> rfl
theorem bins_zero {l ws : List Int} (h : ∀ i, i < ws.length → at0 l i = 0) : puts l ws = List.replicate (puts l ws).length 0 := by
  refine List.eq_replicate_iff.2 ⟨rfl, fun b hb => ?_⟩
  unfold puts at hb
  obtain ⟨r, hr, hb'⟩ := List.mem_flatten.1 hb
  obtain ⟨i, hi, rfl⟩ := List.mem_map.1 hr
  rw [h i (by simpa using hi), bin_zero] at hb'
  exact (List.mem_replicate.1 hb').2
theorem rk_zero (l : List Int) (h : loud l = 0) : rk l 0 = 0 := by
  induction l with
  | nil => rfl
  | cons x l ih =>
    have hx : x = 0 := by simp only [loud] at h; omega
    have hl : loud l = 0 := by simp only [loud] at h; omega
    subst hx
    rw [rk]
    have := ih hl
    simp only [Int.natAbs_zero, Nat.sub_zero, Int.zero_add, Int.toNat_natCast]
    rw [this]
    rfl
/-- Silence is six bits a band. -/
theorem silent_pack {s : List Int} {B : Int} {ps : List Prt} (h1 : bf s = 0) (h5 : 0 ≤ B) (h6 : B ≤ 400) (hr : Right s B ps) (hz : ∀ i, i < ps.length → (prt ps i).1 = 0 ∧ loud (prt ps i).2 = 0) :
    PckF ps s B 0 ∧ oct (pbits ps) = List.replicate ((6 * s.length + 7) / 8) 0 := by
  obtain ⟨n0, n8, hsz, n32⟩ := bf_ok h1
  have hl : lds ps = upto (fun _ => 0) s.length := by
    refine eq_of_at (by rw [lds_length, upto_length, hr.len]) fun i hi => ?_
    rw [lds_length] at hi
    rw [lds_at hi, upto_at _ (by rw [← hr.len]; exact hi), (hz i hi).2]
    rfl
  have hc : cost s (lds ps) = 0 := by rw [hl]; exact cost_zeros hsz
  have hln := hr.len
  have hlen : (pbits ps).length = 6 * s.length := by rw [pack_length hr, hc, hr.len]; rfl
  refine ⟨Or.inr ⟨hr.frm h1 ⟨h5, h6⟩, by rw [if_neg (by rw [hc]; omega)]⟩, ?_⟩
  have hzz : ∀ i, i < (wids ps).length → at0 (nums ps) i = 0 := fun i hi => by
    rw [wids_length] at hi
    by_cases e : i < ps.length
    · rw [nums_gain e]; exact (hz i e).1
    · obtain ⟨j, rfl⟩ : ∃ j, i = ps.length + j := ⟨i - ps.length, by omega⟩
      have hj : j < ps.length := by omega
      rw [nums_rank hj, (hz j hj).2]
      exact rk_zero _ (hz j hj).2
  have e := bins_zero hzz
  have e2 : pbits ps = List.replicate (6 * s.length) 0 := by
    rw [← hlen]
    exact e
  rw [e2, oct_zeros]
/-- The fact of one nought. -/
theorem fact_frm : FrmF [(0, [0])] [1] 0 0 := by
  refine Or.inr ⟨by decide +kernel, Or.inr ⟨rfl, Or.inr ⟨fun i hi => ?_, Or.inr ⟨by decide +kernel, Or.inr ⟨⟨by omega, by omega⟩, Or.inr ⟨fun i hi => ?_, rfl⟩⟩⟩⟩⟩⟩
  · obtain rfl : i = 0 := by simpa using hi
    rfl
  · obtain rfl : i = 0 := by simpa using hi
    decide +kernel
theorem fact_pck : PckF [(0, [0])] [1] 0 0 ∧ oct (pbits [(0, [0])]) = [0] := ⟨Or.inr ⟨fact_frm, by decide +kernel⟩, by decide +kernel⟩

end Go.Proofs.YtjojeifoddonnakDoor.Pck

/-
  The numbers of chapter 18: what is lost gets softer, and ends. No program here.
-/
namespace Go.Proofs.YtjojeifoddonnakDoor.Hid18
open Go.Proofs.YtjojeifoddonnakDoor.Tre Go.Proofs.YtjojeifoddonnakDoor.Bnd Go.Proofs.YtjojeifoddonnakDoor.Cnt Go.Proofs.YtjojeifoddonnakDoor.Pls Go.Proofs.YtjojeifoddonnakDoor.Gai Go.Proofs.YtjojeifoddonnakDoor.Shr Go.Proofs.YtjojeifoddonnakDoor.Frm Go.Proofs.YtjojeifoddonnakDoor.Pck
set_option linter.unusedVariables false

/-- The greatest gain that there is, no greater than this one. -/
def low : Nat → Nat
  | 0 => 0
  | g + 1 => if vo (g + 1) = true then g + 1 else low g
theorem low_le (g : Nat) : low g ≤ g := by
  induction g with
  | zero => exact Nat.le_refl _
  | succ g ih => rw [low]; split <;> omega
theorem low_ok (g : Nat) : vo (low g) = true := by
  induction g with
  | zero => decide +kernel
  | succ g ih =>
    rw [low]
    split
    · assumption
    · exact ih
theorem low_is {g : Nat} (h : vo g = true) : low g = g := by
  cases g with
  | zero => rfl
  | succ g => rw [low, if_pos h]
theorem low_next {g : Nat} (h : vo (g + 1) = false) : low (g + 1) = low g := by rw [low, if_neg (by rw [h]; simp)]

/-- Softer: a gain, a part, a frame. -/
def softG (g : Int) : Int := (low (g - 4).toNat : Int)
def softP (p : Prt) : Prt := (softG p.1, if softG p.1 = 0 then List.replicate p.2.length 0 else p.2)
def soft (ps : List Prt) : List Prt := ps.map softP
theorem soft_length (ps : List Prt) : (soft ps).length = ps.length := by simp [soft]
theorem soft_at {ps : List Prt} {i : Nat} (h : i < ps.length) : prt (soft ps) i = softP (prt ps i) := by
  unfold prt soft
  rw [List.getD_eq_getElem?_getD, List.getD_eq_getElem?_getD, List.getElem?_map, List.getElem?_eq_getElem h]
  rfl
theorem softP_length (p : Prt) : (softP p).2.length = p.2.length := by
  unfold softP
  simp only
  split
  · rw [List.length_replicate]
  · rfl
theorem softG_in {g : Int} (h : g ≤ 53) : 0 ≤ softG g ∧ softG g ≤ 49 ∧ (0 ≤ g → softG g ≤ g) ∧ (4 ≤ g → softG g ≤ g - 4) ∧ (g < 4 → softG g = 0) := by
  have h1 := low_le (g - 4).toNat
  unfold softG
  refine ⟨by omega, by omega, fun h0 => by omega, fun h0 => by omega, fun h0 => ?_⟩
  have e : (g - 4).toNat = 0 := by omega
  rw [e]
  rfl
/-- What is told where one is lost. -/
def lostL (s : List Int) (last : List Prt) : List Int := if decF (soft last) = 0 then Lap.unlap (all (soft last)) else List.replicate (total s) 0
/-- A frame that may have been played: none, or one of these sizes. -/
def Was (s : List Int) (ps : List Prt) : Prop := ps = [] ∨ (ps.length = s.length ∧ ∀ i, i < ps.length → ((prt ps i).2.length : Int) = at0 s i)
theorem Was.soft {s : List Int} {ps : List Prt} (h : Was s ps) : Was s (soft ps) := by
  rcases h with rfl | ⟨h1, h2⟩
  · exact Or.inl rfl
  · refine Or.inr ⟨by rw [soft_length]; exact h1, fun i hi => ?_⟩
    rw [soft_length] at hi
    rw [soft_at hi, softP_length]
    exact h2 i hi
theorem Was.long {s : List Int} {ps : List Prt} (h : Was s ps) (hn : ps ≠ []) : long ps = total s := by
  rcases h with rfl | ⟨h1, h2⟩
  · exact absurd rfl hn
  · have h3 := long_pre h1 h2 ps.length (Nat.le_refl _)
    rw [List.take_length] at h3
    rw [h3, h1]
    rfl
/-- Always as many samples. -/
theorem lost_length {s : List Int} {ps : List Prt} (h : Was s ps) (h2 : total s % 2 = 0) : (lostL s ps).length = total s := by
  unfold lostL
  split
  · rename_i h1
    have hn : soft ps ≠ [] := by
      intro e
      rw [e] at h1
      exact absurd h1 (by decide)
    have hl := h.soft.long hn
    rw [Lap.unlap_length (by rw [all_length, hl]; omega), all_length, hl]
  · rw [List.length_replicate]
/-- Lost again and again. -/
def softs : Nat → List Prt → List Prt
  | 0, ps => ps
  | k + 1, ps => soft (softs k ps)
theorem softs_length (k : Nat) (ps : List Prt) : (softs k ps).length = ps.length := by
  induction k with
  | zero => rfl
  | succ k ih => rw [softs, soft_length, ih]
theorem softs_was {s : List Int} {ps : List Prt} (h : Was s ps) (k : Nat) : Was s (softs k ps) := by
  induction k with
  | zero => exact h
  | succ k ih => exact ih.soft
/-- Gains that may be. -/
def Gs (ps : List Prt) : Prop := ∀ i, i < ps.length → 0 ≤ (prt ps i).1 ∧ (prt ps i).1 ≤ 53
theorem softs_gain {ps : List Prt} (h : Gs ps) (k : Nat) {i : Nat} (hi : i < ps.length) : 0 ≤ (prt (softs k ps) i).1 ∧ ((prt (softs k ps) i).1 = 0 ∨ (prt (softs k ps) i).1 ≤ 53 - 4 * k) ∧ (prt (softs k ps) i).1 ≤ 53 := by
  induction k with
  | zero =>
    have := h i hi
    exact ⟨this.1, Or.inr (by simpa [softs] using this.2), this.2⟩
  | succ k ih =>
    obtain ⟨h1, h2, h3⟩ := ih
    rw [softs, soft_at (by rw [softs_length]; exact hi)]
    have h4 := softG_in h3
    have e : (softP (prt (softs k ps) i)).1 = softG (prt (softs k ps) i).1 := rfl
    rw [e]
    refine ⟨h4.1, ?_, by omega⟩
    by_cases h5 : 4 ≤ (prt (softs k ps) i).1
    · have := h4.2.2.2.1 h5
      rcases h2 with h6 | h6
      · omega
      · right; omega
    · left
      exact h4.2.2.2.2 (by omega)
/-- Behind fourteen it is silent. -/
theorem lost_silent {s : List Int} {ps : List Prt} (h : Was s ps) (h2 : total s % 2 = 0) (hg : Gs ps) {k : Nat} (hk : 13 ≤ k) : lostL s (softs k ps) = List.replicate (total s) 0 := by
  unfold lostL
  split
  · rename_i h1
    have hn : soft (softs k ps) ≠ [] := by
      intro e
      rw [e] at h1
      exact absurd h1 (by decide)
    have hl := (softs_was h k).soft.long hn
    have hz : ∀ i, i < (soft (softs k ps)).length → loud (prt (soft (softs k ps)) i).2 = 0 := fun i hi => by
      rw [soft_length, softs_length] at hi
      have h3 := softs_gain hg k hi
      have h4 := softG_in h3.2.2
      rw [soft_at (by rw [softs_length]; exact hi)]
      have e : softG (prt (softs k ps) i).1 = 0 := by
        rcases h3.2.1 with h5 | h5
        · exact h4.2.2.2.2 (by omega)
        · exact h4.2.2.2.2 (by omega)
      unfold softP
      simp only
      rw [if_pos e]
      exact loud_rep _
    rw [all_zero hz, hl]
    exact unlap_zeros h2
  · rfl
theorem lost_none {s : List Int} : lostL s [] = List.replicate (total s) 0 := by
  unfold lostL
  rw [if_neg (by decide)]
theorem softs_none (k : Nat) : softs k [] = [] := List.length_eq_zero_iff.1 (by rw [softs_length]; rfl)
theorem was_right {s : List Int} {B : Int} {ps : List Prt} (h : Right s B ps) : Was s ps := Or.inr ⟨h.len, h.fit⟩
theorem gs_right {s : List Int} {B : Int} {ps : List Prt} (h : Right s B ps) : Gs ps := fun i hi => ⟨(right_in h hi).2.2.1, (right_in h hi).2.2.2⟩

/-- What is played: the fault, what is told, what was played last. -/
def PlayF (b s : List Int) (B : Int) (last : List Prt) (E : Int) (o : List Int) (last' : List Prt) : Prop :=
  ∃ U ps, UnpF b s B U ps ∧ ((U ≠ 0 ∧ E = U ∧ o = [] ∧ last' = last) ∨ (U = 0 ∧ decF ps ≠ 0 ∧ E = decF ps ∧ o = [] ∧ last' = last) ∨ (U = 0 ∧ decF ps = 0 ∧ E = 0 ∧ o = Lap.unlap (all ps) ∧ last' = ps))
theorem PlayF.one {b s : List Int} {B E E' : Int} {last m o o' k k' : List Prt} {x x' : List Int} (h : PlayF b s B last E x k) (h' : PlayF b s B m E' x' k') : E = E' ∧ x = x' ∧ (E = 0 → k = k') := by
  obtain ⟨U, ps, h1, h2⟩ := h
  obtain ⟨U', ps', h1', h2'⟩ := h'
  obtain ⟨rfl, rfl⟩ := h1.one h1'
  rcases h2 with ⟨a1, a2, a3, a4⟩ | ⟨a1, a2, a3, a4, a5⟩ | ⟨a1, a2, a3, a4, a5⟩
  · rcases h2' with ⟨b1, b2, b3, b4⟩ | ⟨b1, _⟩ | ⟨b1, _⟩
    · exact ⟨by rw [a2, b2], by rw [a3, b3], fun h => absurd (a2.symm.trans h) a1⟩
    · exact absurd b1 a1
    · exact absurd b1 a1
  · rcases h2' with ⟨b1, _⟩ | ⟨b1, b2, b3, b4, b5⟩ | ⟨b1, b2, _⟩
    · exact absurd a1 b1
    · exact ⟨by rw [a3, b3], by rw [a4, b4], fun h => absurd (a3.symm.trans h) a2⟩
    · exact absurd b2 a2
  · rcases h2' with ⟨b1, _⟩ | ⟨b1, b2, _⟩ | ⟨b1, b2, b3, b4, b5⟩
    · exact absurd a1 b1
    · exact absurd a2 b2
    · exact ⟨by rw [a3, b3], by rw [a4, b4], fun _ => by rw [a5, b5]⟩
theorem PlayF.was {b s : List Int} {B E : Int} {last k : List Prt} {x : List Int} (h : PlayF b s B last E x k) (hw : Was s last ∧ Gs last) : Was s k ∧ Gs k := by
  obtain ⟨U, ps, h1, h2⟩ := h
  rcases h2 with ⟨a1, a2, a3, a4⟩ | ⟨a1, a2, a3, a4, a5⟩ | ⟨a1, a2, a3, a4, a5⟩
  · rw [a4]; exact hw
  · rw [a5]; exact hw
  · subst a1 a5
    rcases h1 with ⟨b1, b2, _⟩ | ⟨_, h1⟩
    · exact absurd b2.symm b1
    · rcases h1 with ⟨_, b2, _⟩ | ⟨_, h1⟩
      · omega
      · rcases h1 with ⟨_, b2, _⟩ | ⟨b1, _⟩
        · omega
        · have hr := (frm_zero b1.1).2.2.2
          exact ⟨was_right hr, gs_right hr⟩
/-- The fault of a player. -/
def newF (s : List Int) (B : Int) : Int := if bf s = 0 then (if B < 0 ∨ 400 < B then 1 else if total s % 2 = 0 then 0 else 3) else bf s
theorem newF_zero {s : List Int} {B : Int} : newF s B = 0 ↔ bf s = 0 ∧ 0 ≤ B ∧ B ≤ 400 ∧ total s % 2 = 0 := by
  unfold newF
  constructor
  · intro h
    split at h
    · rename_i h1
      split at h
      · omega
      · split at h
        · exact ⟨h1, by omega, by omega, by assumption⟩
        · omega
    · rename_i h1; exact absurd h h1
  · intro ⟨h1, h2, h3, h4⟩
    rw [if_pos h1, if_neg (by omega), if_pos h4]

end Go.Proofs.YtjojeifoddonnakDoor.Hid18

/-
  More numbers of chapter 17: how bytes are read as a frame, number by number. No program here.
-/
namespace Go.Proofs.YtjojeifoddonnakDoor.Pck
open Go.Proofs.YtjojeifoddonnakDoor.Tre Go.Proofs.YtjojeifoddonnakDoor.Bnd Go.Proofs.YtjojeifoddonnakDoor.Cnt Go.Proofs.YtjojeifoddonnakDoor.Pls Go.Proofs.YtjojeifoddonnakDoor.Gai Go.Proofs.YtjojeifoddonnakDoor.Shr Go.Proofs.YtjojeifoddonnakDoor.Frm Go.Proofs.YtjojeifoddonnakDoor.Wid
set_option linter.unusedVariables false

/-- The gains that are read; what they give; the ranks that are read then. -/
def rg (A : List Int) (i : Nat) : Int := num 0 ((A.drop (6 * i)).take 6)
def rgs (A : List Int) (n : Nat) : List Int := upto (rg A) n
def rgv (A s : List Int) (B : Int) : List Int := given (rgs A s.length) s B
def rr (A s gv : List Int) (i : Nat) : Int := num 0 ((A.drop (6 * s.length + cs s gv i)).take (Bt (at0 gv i).toNat (at0 s i).toNat))
/-- Pulses that are read so. -/
def Rd (A s gv : List Int) (i : Nat) (l : List Int) : Prop := Is (at0 s i).toNat (at0 gv i).toNat (rr A s gv i) l
section
variable {b s : List Int} {B : Int} {qs : List Prt}
theorem IsP.gains (h : IsP b s B qs) : gns qs = rgs (opn b) s.length := by
  have hr := (frm_zero h.1).2.2.2
  refine eq_of_at (by rw [gns_length, rgs, upto_length, hr.len]) fun i hi => ?_
  rw [gns_length] at hi
  unfold rgs
  rw [gns_at hi, upto_at _ (by rw [← hr.len]; exact hi), ← (h.gain hi).1]
  rfl
theorem IsP.given (h : IsP b s B qs) : lds qs = rgv (opn b) s B := by
  obtain ⟨z1, z2, z3, hr⟩ := frm_zero h.1
  unfold rgv
  rw [(hr.costs z1 z2).1, h.gains]
theorem IsP.reads (h : IsP b s B qs) {i : Nat} (hi : i < s.length) : gok (rg (opn b) i) = true ∧ 6 * i + 6 ≤ (opn b).length := by
  have hr := (frm_zero h.1).2.2.2
  have hi' : i < qs.length := by rw [hr.len]; exact hi
  have h1 := h.gain hi'
  have h2 := (hr.ok i hi').1
  rw [← h1.1] at h2
  exact ⟨h2, h1.2⟩
theorem IsP.ranks (h : IsP b s B qs) {i : Nat} (hi : i < s.length) :
    Rd (opn b) s (rgv (opn b) s B) i (prt qs i).2 ∧ rr (opn b) s (rgv (opn b) s B) i < V (at0 (rgv (opn b) s B) i).toNat (at0 s i).toNat ∧ 6 * s.length + cs s (rgv (opn b) s B) i + Bt (at0 (rgv (opn b) s B) i).toNat (at0 s i).toNat ≤ (opn b).length := by
  have hr := (frm_zero h.1).2.2.2
  have hi' : i < qs.length := by rw [hr.len]; exact hi
  have h1 := h.rank hi'
  have h2 := hr.fit i hi'
  have h3 := lds_at hi'
  have h4 := right_in hr hi'
  have h5 := rk_in _ h4.1 h4.2.1
  rw [h.given] at h3
  have e1 : (at0 s i).toNat = (prt qs i).2.length := by omega
  have e2 : (at0 (rgv (opn b) s B) i).toNat = loud (prt qs i).2 := by omega
  rw [h.given, hr.len] at h1
  unfold Rd rr
  rw [e1, e2]
  refine ⟨⟨rfl, rfl, h1.1.symm⟩, ?_, h1.2⟩
  rw [h1.1]
  exact h5.2
/-- What is read so is it. -/
theorem IsP.same (h : IsP b s B qs) {ps : List Prt} (hl : ps.length = s.length) (hg : ∀ i, i < s.length → (prt ps i).1 = rg (opn b) i ∧ Rd (opn b) s (rgv (opn b) s B) i (prt ps i).2) : ps = qs := by
  obtain ⟨z1, z2, z3, hr⟩ := frm_zero h.1
  refine parts_eq (by rw [hl, hr.len]) fun i hi => ?_
  rw [hl] at hi
  have hi' : i < qs.length := by rw [hr.len]; exact hi
  obtain ⟨g1, g2⟩ := hg i hi
  have h1 := (h.gain hi').1
  obtain ⟨h2, _, _⟩ := h.ranks hi
  have h4 := right_in hr hi'
  have e1 := h2.1
  have e2 := h2.2.1
  refine Prod.ext (g1.trans h1) (Is.one (by omega) (by omega) h2 g2)
end

end Go.Proofs.YtjojeifoddonnakDoor.Pck

/-
  The values of gains. No program here.
-/
namespace Go.Proofs.YtjojeifoddonnakDoor.Frm
open Go.Proofs.YtjojeifoddonnakDoor.Tre Go.Proofs.YtjojeifoddonnakDoor.Bnd Go.Proofs.YtjojeifoddonnakDoor.Pls Go.Proofs.YtjojeifoddonnakDoor.Gai Go.Proofs.YtjojeifoddonnakDoor.Shr
set_option linter.unusedVariables false

/-- The value of a gain, 0 where there is none. -/
def vlN (g : Int) : Int := if gok g = true then (vl g.toNat : Int) else 0
theorem gok_in {g : Int} (h : gok g = true) : 0 ≤ g ∧ g ≤ 53 ∧ vo g.toNat = true := by
  unfold gok at h
  simp at h
  exact ⟨h.1.1, h.1.2, h.2⟩
theorem vlN_ok {g : Int} (h : gok g = true) : vlN g = (vl g.toNat : Int) := by unfold vlN; rw [if_pos h]
theorem vlN_in (g : Int) : 0 ≤ vlN g ∧ vlN g ≤ 8000 := by
  unfold vlN
  split
  · rename_i h
    have := (vo_is (gok_in h).2.2).1
    omega
  · omega
theorem vals_take {gs : List Int} {k : Nat} (h : k < gs.length) : (vals gs).take (k + 1) = (vals gs).take k ++ [(vl (at0 gs k).toNat : Int)] := by
  rw [List.take_succ_eq_append_getElem (by rw [vals_length]; exact h)]
  have e := vals_at gs h
  have e2 : at0 (vals gs) k = (vals gs)[k]'(by rw [vals_length]; exact h) := by simp [at0, vals_length, h]
  rw [← e2, e]
theorem vals_lds {gs : List Int} (h : ∀ i, i < gs.length → gok (at0 gs i) = true) : Lds (vals gs) := fun i hi => by
  rw [vals_length] at hi
  rw [vals_at gs hi]
  have := (vo_is (gok_in (h i hi)).2.2).1
  omega

theorem vals_upto (gs : List Int) : vals gs = upto (fun i => (vl (at0 gs i).toNat : Int)) gs.length := by
  refine eq_of_at (by rw [vals_length, upto_length]) fun i hi => ?_
  rw [vals_length] at hi
  rw [vals_at gs hi, upto_at _ hi]

end Go.Proofs.YtjojeifoddonnakDoor.Frm

/-
  The middle of a gain's numbers, as it is reckoned. No program here.
-/
namespace Go.Proofs.YtjojeifoddonnakDoor.Gai
open Go.RowKit
set_option linter.unusedVariables false

theorem mid_is {g : Nat} (h0 : 0 < g) (h1 : g ≤ 53) : ∃ m q P : Nat, Int.tdiv ((g : Int) - 1) 4 = (m : Int) ∧ Int.tmod ((g : Int) - 1) 4 = (q : Int) ∧ m ≤ 13 ∧ q ≤ 3 ∧ (2 : Int) ^ m = (P : Int) ∧ 0 < P ∧ P ≤ 8192 ∧
    Hid (mid g = P + (2 * q + 1) * P / 8) := by
  refine ⟨(g - 1) / 4, (g - 1) % 4, 2 ^ ((g - 1) / 4), ?_, ?_, by omega, by omega, by simp, Nat.two_pow_pos _, ?_, rfl⟩
  · rw [show (g : Int) - 1 = ((g - 1 : Nat) : Int) by omega]; rfl
  · rw [show (g : Int) - 1 = ((g - 1 : Nat) : Int) by omega]; rfl
  · exact Nat.pow_le_pow_right (j := 13) (by omega) (by omega)

end Go.Proofs.YtjojeifoddonnakDoor.Gai

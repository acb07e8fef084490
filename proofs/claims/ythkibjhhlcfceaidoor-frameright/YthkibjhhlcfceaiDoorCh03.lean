/-
  How loud the first numbers are; the fault of a row of pulses. No program here.
-/
import Derived.Test.YthkibjhhlcfceaiDoorCh02
import Derived.Test.YthkibjhhlcfceaiDoorCh00
import Derived.Lib.BitFns
namespace Go.Proofs.YthkibjhhlcfceaiDoor.Pls
open Go.Proofs.YthkibjhhlcfceaiDoor.Tre Go.Proofs.YthkibjhhlcfceaiDoor.Cnt
set_option linter.unusedVariables false

theorem loud_step {l : List Int} {k : Nat} (hk : k < l.length) : loud (l.take (k + 1)) = loud (l.take k) + l[k].natAbs := by
  rw [List.take_succ_eq_append_getElem hk, loud_append]
  simp [loud]
theorem loud_in {b : Nat} {l : List Int} (h : In (b : Int) l) : loud l ≤ b * l.length := by
  induction l with
  | nil => simp [loud]
  | cons x r ih =>
    have h1 := h x (by simp)
    have h2 := ih fun n hn => h n (by simp [hn])
    simp only [loud, List.length_cons, Nat.mul_add]
    omega

/-- The fault of a row: 0 where there is none. -/
def fault (l : List Int) : Int := if 6 < l.length then 4 else if l.any (out 8) = true then 1 else if 8 < loud l then 4 else 0
theorem fault_ok {l : List Int} (h : fault l = 0) : l.length ≤ 6 ∧ In 8 l ∧ loud l ≤ 8 := by
  unfold fault at h
  split at h
  · omega
  · split at h
    · omega
    · split at h
      · omega
      · rename_i h1 h2 h3
        exact ⟨by omega, in_of_any (by simpa using h2), by omega⟩
theorem fault_none {l : List Int} (h1 : l.length ≤ 6) (h2 : In 8 l) (h3 : loud l ≤ 8) : fault l = 0 := by
  unfold fault
  rw [if_neg (by omega), if_neg (by rw [any_of_in h2]; simp), if_neg (by omega)]
theorem loud_all {b : Int} {l : List Int} (h : (loud l : Int) ≤ b) : In b l := by
  intro n hn
  induction l with
  | nil => cases hn
  | cons x r ih =>
    simp only [loud] at h
    rcases List.mem_cons.1 hn with rfl | hn'
    · omega
    · exact ih (by omega) hn'
theorem is_right {n k : Nat} {rank : Int} {l : List Int} (hn : n ≤ 6) (hk : k ≤ 8) (h : Is n k rank l) : fault l = 0 := by
  obtain ⟨rfl, rfl, _⟩ := h
  exact fault_none hn (loud_all (by omega)) hk

end Go.Proofs.YthkibjhhlcfceaiDoor.Pls

/-
  The numbers of chapter 8: how loud, in few steps. No program here.
-/
namespace Go.Proofs.YthkibjhhlcfceaiDoor.Gai
set_option linter.unusedVariables false

/-- How loud a number is. -/
def gi (n : Nat) : Nat := if n = 0 then 0 else 1 + 4 * Nat.log2 n + (n - 2 ^ Nat.log2 n) * 4 / 2 ^ Nat.log2 n
/-- The middle of the numbers that are as loud. -/
def mid (g : Nat) : Nat := 2 ^ ((g - 1) / 4) + (2 * ((g - 1) % 4) + 1) * 2 ^ ((g - 1) / 4) / 8
def vl (g : Nat) : Nat := if g = 0 then 0 else mid g
/-- There is a number of that gain. -/
def vo (g : Nat) : Bool := Nat.ble (vl g) 8000 && Nat.beq (gi (vl g)) g

theorem gi_zero : gi 0 = 0 := rfl
theorem gi_is {n m q : Nat} (h0 : 2 ^ m ≤ n) (h1 : n < 2 ^ (m + 1)) (hq : (n - 2 ^ m) * 4 / 2 ^ m = q) : gi n = 1 + 4 * m + q := by
  have hp : 0 < 2 ^ m := Nat.two_pow_pos m
  have hn : n ≠ 0 := by omega
  have e : Nat.log2 n = m := (Nat.log2_eq_iff hn).2 ⟨h0, h1⟩
  unfold gi
  rw [if_neg hn, e, hq]
theorem log_is {n : Nat} (h : 0 < n) : ∃ m, 2 ^ m ≤ n ∧ n < 2 ^ (m + 1) :=
  ⟨Nat.log2 n, (Nat.log2_eq_iff (by omega)).1 rfl⟩
theorem log_in {n m : Nat} (h0 : 2 ^ m ≤ n) (h : n ≤ 8000) : m ≤ 12 := by
  rcases Nat.lt_or_ge m 13 with g | g
  · omega
  · have := Nat.pow_le_pow_right (show 0 < 2 by omega) g
    omega
/-- How many bits. -/
theorem len_is {n m : Nat} (h0 : 2 ^ m ≤ n) (h1 : n < 2 ^ (m + 1)) (h : n ≤ 8000) : Lib.bitLen n = m + 1 := by
  rw [Lib.bitLen_shift m n h0 (by omega)]
  have hp : 0 < 2 ^ m := Nat.two_pow_pos m
  have e : n / 2 ^ m = 1 := by
    rw [Nat.pow_succ] at h1
    exact Nat.div_eq_of_lt_le (by omega) (by omega)
  rw [e]; rfl

theorem vo_is {g : Nat} (h : vo g = true) : vl g ≤ 8000 ∧ gi (vl g) = g := by
  unfold vo at h
  rw [Bool.and_eq_true] at h
  exact ⟨Nat.le_of_ble_eq_true h.1, Nat.eq_of_beq_eq_true h.2⟩
theorem vo_not {g : Nat} (h : vo g = false) : 8000 < vl g ∨ (vl g ≤ 8000 ∧ gi (vl g) ≠ g) := by
  rcases Nat.lt_or_ge 8000 (vl g) with g1 | g1
  · exact Or.inl g1
  · refine Or.inr ⟨g1, fun e => ?_⟩
    unfold vo at h
    rw [Nat.ble_eq_true_of_le g1, e, Nat.beq_refl] at h
    cases h

def allOk (p : Nat → Bool) : Nat → Bool
  | 0 => true
  | n + 1 => p n && allOk p n
def blk (p : Nat → Bool) : Bool := allOk (fun a => allOk (fun b => p (100 * a + b)) 100) 81
theorem allOk_at {p : Nat → Bool} : ∀ {n}, allOk p n = true → ∀ i, i < n → p i = true
  | 0, _, i, hi => absurd hi (Nat.not_lt_zero _)
  | n + 1, h, i, hi => by
    simp only [allOk, Bool.and_eq_true] at h
    rcases Nat.lt_or_ge i n with g | g
    · exact allOk_at h.2 i g
    · obtain rfl : i = n := by omega
      exact h.1
theorem blk_at {p : Nat → Bool} (h : blk p = true) (n : Nat) (hn : n < 8100) : p n = true := by
  have h1 := allOk_at (allOk_at h (n / 100) (by omega)) (n % 100) (by omega)
  have e : 100 * (n / 100) + n % 100 = n := by omega
  rwa [e] at h1

theorem gi_all : blk (fun n => Nat.ble 8001 n || (vo (gi n) && Nat.ble (8 * (vl (gi n) - n)) n && Nat.ble (8 * (n - vl (gi n))) n && Nat.ble (gi n) 53)) = true := by decide +kernel
/-- WITHIN AN EIGHTH; and as loud. -/
theorem gi_near {n : Nat} (h : n ≤ 8000) : gi n ≤ 53 ∧ vo (gi n) = true ∧ 8 * (vl (gi n) - n) ≤ n ∧ 8 * (n - vl (gi n)) ≤ n := by
  have := blk_at gi_all n (by omega)
  rw [Bool.or_eq_true, Bool.and_eq_true, Bool.and_eq_true, Bool.and_eq_true] at this
  rcases this with g | ⟨⟨⟨g1, g2⟩, g3⟩, g4⟩
  · have := Nat.le_of_ble_eq_true g; omega
  · exact ⟨Nat.le_of_ble_eq_true g4, g1, Nat.le_of_ble_eq_true g2, Nat.le_of_ble_eq_true g3⟩
theorem twice_all : blk (fun n => Nat.ble n 0 || (Nat.ble 4001 n || Nat.beq (gi (2 * n)) (gi n + 4))) = true := by decide +kernel
/-- TWICE AS LOUD, FOUR STEPS. -/
theorem gi_twice {n : Nat} (h0 : 0 < n) (h : n ≤ 4000) : gi (2 * n) = gi n + 4 := by
  have := blk_at twice_all n (by omega)
  rw [Bool.or_eq_true, Bool.or_eq_true] at this
  rcases this with g | g | g
  · have := Nat.le_of_ble_eq_true g; omega
  · have := Nat.le_of_ble_eq_true g; omega
  · exact Nat.eq_of_beq_eq_true g
theorem up_all : blk (fun n => Nat.ble 8000 n || Nat.ble (gi n) (gi (n + 1))) = true := by decide +kernel
/-- A greater number is no less loud. -/
theorem gi_up {n m : Nat} (h : n ≤ m) (hm : m ≤ 8000) : gi n ≤ gi m := by
  induction m with
  | zero => obtain rfl : n = 0 := by omega
            exact Nat.le_refl _
  | succ m ih =>
    rcases Nat.lt_or_ge m n with g | g
    · obtain rfl : n = m + 1 := by omega
      exact Nat.le_refl _
    · have h1 := ih g (by omega)
      have := blk_at up_all m (by omega)
      rw [Bool.or_eq_true] at this
      rcases this with g | g
      · have := Nat.le_of_ble_eq_true g; omega
      · exact Nat.le_trans h1 (Nat.le_of_ble_eq_true g)

/-- The greatest power, and how many fourths of it. -/
theorem fourths {n p q : Nat} (hp : 0 < p) (h0 : q * p ≤ 4 * (n - p)) (h1 : 4 * (n - p) < (q + 1) * p) : (n - p) * 4 / p = q := by
  rw [Nat.mul_comm (n - p) 4]
  exact Nat.div_eq_of_lt_le h0 h1

end Go.Proofs.YthkibjhhlcfceaiDoor.Gai

/-
  The numbers of chapter 16: a frame of bands, what it tells, and its faults. No program here.
-/
namespace Go.Proofs.YthkibjhhlcfceaiDoor.Frm
open Go.Proofs.YthkibjhhlcfceaiDoor.Tre Go.Proofs.YthkibjhhlcfceaiDoor.Bnd Go.Proofs.YthkibjhhlcfceaiDoor.Pls Go.Proofs.YthkibjhhlcfceaiDoor.Gai Go.Proofs.YthkibjhhlcfceaiDoor.Shr
set_option linter.unusedVariables false

/-- A part: its gain, its pulses. -/
abbrev Prt := Int × List Int
def prt (ps : List Prt) (i : Nat) : Prt := ps.getD i (0, [])
theorem prt_get {ps : List Prt} {i : Nat} (h : i < ps.length) : prt ps i = ps[i] := by simp [prt, h]
theorem prt_append {ps : List Prt} {p : Prt} {i : Nat} (h : i < ps.length) : prt (ps ++ [p]) i = prt ps i := by
  unfold prt
  rw [List.getD_eq_getElem?_getD, List.getD_eq_getElem?_getD, List.getElem?_append_left h]
theorem prt_last (ps : List Prt) (p : Prt) : prt (ps ++ [p]) ps.length = p := by simp [prt]
theorem parts_eq {ps qs : List Prt} (hl : ps.length = qs.length) (h : ∀ i, i < ps.length → prt ps i = prt qs i) : ps = qs := by
  apply List.ext_getElem hl
  intro i h1 h2
  have := h i h1
  rwa [prt_get h1, prt_get h2] at this

/-- The values of gains; how many pulses they get. -/
def vals (gs : List Int) : List Int := gs.map fun g => (vl g.toNat : Int)
theorem vals_length (gs : List Int) : (vals gs).length = gs.length := by simp [vals]
theorem vals_at (gs : List Int) {i : Nat} (h : i < gs.length) : at0 (vals gs) i = (vl (at0 gs i).toNat : Int) := by
  unfold at0 vals
  rw [List.getElem?_map, List.getElem?_eq_getElem h]
  rfl
def gns (ps : List Prt) : List Int := ps.map Prod.fst
theorem gns_length (ps : List Prt) : (gns ps).length = ps.length := by simp [gns]
theorem gns_at {ps : List Prt} {i : Nat} (h : i < ps.length) : at0 (gns ps) i = (prt ps i).1 := by
  unfold at0 gns
  rw [List.getElem?_map, List.getElem?_eq_getElem h, prt_get h]
  rfl
def given (gs s : List Int) (B : Int) : List Int := share s (vals gs) B
/-- The gains of bands. -/
def gls (ll : List (List Int)) : List Int := ll.map fun b => (gi (loud b) : Int)
theorem gls_length (ll : List (List Int)) : (gls ll).length = ll.length := by simp [gls]
theorem gls_at {ll : List (List Int)} {i : Nat} (h : i < ll.length) : at0 (gls ll) i = (gi (loud (rowAt ll i)) : Int) := by
  unfold at0 gls
  rw [List.getElem?_map, List.getElem?_eq_getElem h, rowAt_get h]
  rfl
/-- A frame that is made of bands. -/
def Made (ll : List (List Int)) (s : List Int) (B : Int) (ps : List Prt) : Prop :=
  ps.length = ll.length ∧ ∀ i, i < ll.length → (prt ps i).1 = (gi (loud (rowAt ll i)) : Int) ∧ Nea.Near (rowAt ll i) (at0 (given (gls ll) s B) i).toNat (prt ps i).2
theorem Made.one {ll : List (List Int)} {s : List Int} {B : Int} {ps qs : List Prt} (h : Made ll s B ps) (h' : Made ll s B qs) : ps = qs := by
  refine parts_eq (h.1.trans h'.1.symm) fun i hi => ?_
  rw [h.1] at hi
  obtain ⟨e1, e2⟩ := h.2 i hi
  obtain ⟨e3, e4⟩ := h'.2 i hi
  exact Prod.ext (e1.trans e3.symm) (e2.one e4)
theorem Made.gns {ll : List (List Int)} {s : List Int} {B : Int} {ps : List Prt} (h : Made ll s B ps) : gns ps = gls ll := by
  refine eq_of_at (by rw [gns_length, gls_length, h.1]) fun i hi => ?_
  rw [gns_length] at hi
  rw [gns_at hi, gls_at (by rw [← h.1]; exact hi)]
  exact (h.2 i (by rw [← h.1]; exact hi)).1

/-- Too loud. -/
def tooLoud (b : List Int) : Bool := decide (8000 < loud b)
/-- The fault of samples, sizes and bits. -/
def encF (l s : List Int) (B : Int) : Int :=
  if bf s = 0 then (if l.length = total s ∧ total s % 2 = 0 then (if l.any (out 1000) = false ∧ 0 ≤ B ∧ B ≤ 400 then (if (cuts (Lap.lap l) s).any tooLoud = true then 4 else 0) else 1) else 3) else bf s
theorem encF_zero {l s : List Int} {B : Int} : encF l s B = 0 ↔ bf s = 0 ∧ l.length = total s ∧ total s % 2 = 0 ∧ In 1000 l ∧ 0 ≤ B ∧ B ≤ 400 ∧ ∀ i, i < s.length → loud (rowAt (cuts (Lap.lap l) s) i) ≤ 8000 := by
  unfold encF
  constructor
  · intro h
    split at h
    · rename_i h1
      split at h
      · rename_i h2
        split at h
        · rename_i h3
          split at h
          · omega
          · rename_i h4
            refine ⟨h1, h2.1, h2.2, in_of_any h3.1, h3.2.1, h3.2.2, fun i hi => ?_⟩
            rw [Bool.not_eq_true, List.any_eq_false] at h4
            have hl : i < (cuts (Lap.lap l) s).length := by rw [cuts_length]; exact hi
            have := h4 _ (List.getElem_mem hl)
            rw [← rowAt_get hl] at this
            simpa [tooLoud] using this
        · omega
      · omega
    · exact absurd h (by assumption)
  · intro ⟨h1, h2, h3, h4, h5, h6, h7⟩
    rw [if_pos h1, if_pos ⟨h2, h3⟩, if_pos ⟨any_of_in h4, h5, h6⟩, if_neg]
    rw [Bool.not_eq_true, List.any_eq_false]
    intro b hb
    obtain ⟨i, hi, rfl⟩ := List.getElem_of_mem hb
    have := h7 i (by rwa [cuts_length] at hi)
    rw [rowAt_get hi] at this
    simp [tooLoud]
    omega
theorem total_even {s l : List Int} (h1 : l.length = total s) (h2 : total s % 2 = 0) : l.length = 2 * (l.length / 2) := by omega

/-- A gain that there is. -/
def gok (g : Int) : Bool := decide (0 ≤ g) && decide (g ≤ 53) && vo g.toNat
/-- One by one: a gain, pulses. -/
def oneF : List Prt → Int
  | [] => 0
  | p :: ps => if gok p.1 = true then (if fault p.2 = 0 then oneF ps else fault p.2) else 1
/-- One by one: pulses, a gain. -/
def twoF : List Prt → Int
  | [] => 0
  | p :: ps => if fault p.2 = 0 then (if gok p.1 = true then twoF ps else 1) else fault p.2
/-- Each has as many numbers as its size. -/
def Fits (ps : List Prt) (s : List Int) : Prop := ∀ i, i < ps.length → ((prt ps i).2.length : Int) = at0 s i
/-- Each has as many pulses as are given to it. -/
def Gets (ps : List Prt) (k : List Int) : Prop := ∀ i, i < ps.length → (loud (prt ps i).2 : Int) = at0 k i
/-- The fault of a frame, as a word of what it is. -/
def FrmF (ps : List Prt) (s : List Int) (B e : Int) : Prop :=
  (bf s ≠ 0 ∧ e = bf s) ∨ (bf s = 0 ∧ ((ps.length ≠ s.length ∧ e = 3) ∨ (ps.length = s.length ∧ ((¬ Fits ps s ∧ e = 3) ∨ (Fits ps s ∧ ((oneF ps ≠ 0 ∧ e = oneF ps) ∨ (oneF ps = 0 ∧ ((¬ (0 ≤ B ∧ B ≤ 400) ∧ e = 1) ∨ ((0 ≤ B ∧ B ≤ 400) ∧ ((¬ Gets ps (given (gns ps) s B) ∧ e = 3) ∨ (Gets ps (given (gns ps) s B) ∧ e = 0)))))))))))
theorem FrmF.one {ps : List Prt} {s : List Int} {B e e' : Int} (h : FrmF ps s B e) (h' : FrmF ps s B e') : e = e' := by
  unfold FrmF at h h'
  by_cases h1 : bf s = 0 <;> by_cases h2 : ps.length = s.length <;> by_cases h3 : Fits ps s <;> by_cases h4 : oneF ps = 0 <;> by_cases h5 : 0 ≤ B ∧ B ≤ 400 <;> by_cases h6 : Gets ps (given (gns ps) s B) <;> simp_all

/-- What a part tells. -/
def tl (v k x : Int) : Int := x.sign * ((x.natAbs : Int) * v / k)
def told (p : Prt) : List Int := p.2.map (tl (vl p.1.toNat) (loud p.2))
theorem told_length (p : Prt) : (told p).length = p.2.length := by simp [told]
def all (ps : List Prt) : List Int := (ps.map told).flatten
def long (ps : List Prt) : Nat := ((ps.map fun p => p.2.length)).sum
theorem all_length (ps : List Prt) : (all ps).length = long ps := by
  unfold all long
  rw [List.length_flatten, List.map_map]
  congr 1
  exact List.map_congr_left fun p _ => told_length p
/-- The fault of a frame that is to be told. -/
def decF (ps : List Prt) : Int :=
  if ps.length = 0 then 5 else if 8 < ps.length ∨ 32 < long ps then 4 else if twoF ps = 0 then (if long ps % 2 = 0 then (if (all ps).any (out 4000) = true then 1 else 0) else 3) else twoF ps

end Go.Proofs.YthkibjhhlcfceaiDoor.Frm

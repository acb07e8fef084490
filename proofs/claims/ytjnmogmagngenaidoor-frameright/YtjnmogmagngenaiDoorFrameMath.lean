/-
  The numbers of chapter 16: a frame of bands, what it tells, and its faults. No program here.
-/
import Derived.Test.YtjnmogmagngenaiDoorShareMath
import Derived.Test.YtjnmogmagngenaiDoorNearMath
import Derived.Test.YtjnmogmagngenaiDoorPulseFault
import Derived.Test.YtjnmogmagngenaiDoorGainMath
import Derived.Test.YtjnmogmagngenaiDoorLapMath
namespace Go.Proofs.YtjnmogmagngenaiDoor.Frm
open Go.Proofs.YtjnmogmagngenaiDoor.Tre Go.Proofs.YtjnmogmagngenaiDoor.Bnd Go.Proofs.YtjnmogmagngenaiDoor.Pls Go.Proofs.YtjnmogmagngenaiDoor.Gai Go.Proofs.YtjnmogmagngenaiDoor.Shr
set_option linter.unusedVariables false

/-- A part: its gain, its pulses. -/
abbrev Prt := Int × List Int
def prt (ps : List Prt) (i : Nat) : Prt := ps.getD i (0, [])
theorem prt_get {ps : List Prt} {i : Nat} (h : i < ps.length) : prt ps i = ps[i] := by simp [prt, h]
theorem prt_append {ps : List Prt} {p : Prt} {i : Nat} (h : i < ps.length) : prt (ps ++ [p]) i = prt ps i := by
  unfold prt
  rw [List.getD_eq_getElem?_getD, List.getD_eq_getElem?_getD, List.getElem?_append_left h]
theorem prt_last (ps : List Prt) (p : Prt) : prt (ps ++ [p]) ps.length = p := by simp [prt]
theorem parts_eq {ps qs : List Prt} (hl : ps.length = qs.length) (h : ∀ i, i < ps.length → prt ps i = prt qs i) : ps = qs := by
  apply List.ext_getElem hl
  intro i h1 h2
  have := h i h1
  rwa [prt_get h1, prt_get h2] at this

/-- The values of gains; how many pulses they get. -/
def vals (gs : List Int) : List Int := gs.map fun g => (vl g.toNat : Int)
theorem vals_length (gs : List Int) : (vals gs).length = gs.length := by simp [vals]
theorem vals_at (gs : List Int) {i : Nat} (h : i < gs.length) : at0 (vals gs) i = (vl (at0 gs i).toNat : Int) := by
  unfold at0 vals
  rw [List.getElem?_map, List.getElem?_eq_getElem h]
  rfl
def gns (ps : List Prt) : List Int := ps.map Prod.fst
theorem gns_length (ps : List Prt) : (gns ps).length = ps.length := by simp [gns]
theorem gns_at {ps : List Prt} {i : Nat} (h : i < ps.length) : at0 (gns ps) i = (prt ps i).1 := by
  unfold at0 gns
  rw [List.getElem?_map, List.getElem?_eq_getElem h, prt_get h]
  rfl
def given (gs s : List Int) (B : Int) : List Int := share s (vals gs) B
/-- The gains of bands. -/
def gls (ll : List (List Int)) : List Int := ll.map fun b => (gi (loud b) : Int)
theorem gls_length (ll : List (List Int)) : (gls ll).length = ll.length := by simp [gls]
theorem gls_at {ll : List (List Int)} {i : Nat} (h : i < ll.length) : at0 (gls ll) i = (gi (loud (rowAt ll i)) : Int) := by
  unfold at0 gls
  rw [List.getElem?_map, List.getElem?_eq_getElem h, rowAt_get h]
  rfl
/-- A frame that is made of bands. -/
def Made (ll : List (List Int)) (s : List Int) (B : Int) (ps : List Prt) : Prop :=
  ps.length = ll.length ∧ ∀ i, i < ll.length → (prt ps i).1 = (gi (loud (rowAt ll i)) : Int) ∧ Nea.Near (rowAt ll i) (at0 (given (gls ll) s B) i).toNat (prt ps i).2
theorem Made.one {ll : List (List Int)} {s : List Int} {B : Int} {ps qs : List Prt} (h : Made ll s B ps) (h' : Made ll s B qs) : ps = qs := by
  refine parts_eq (h.1.trans h'.1.symm) fun i hi => ?_
  rw [h.1] at hi
  obtain ⟨e1, e2⟩ := h.2 i hi
  obtain ⟨e3, e4⟩ := h'.2 i hi
  exact Prod.ext (e1.trans e3.symm) (e2.one e4)
theorem Made.gns {ll : List (List Int)} {s : List Int} {B : Int} {ps : List Prt} (h : Made ll s B ps) : gns ps = gls ll := by
  refine eq_of_at (by rw [gns_length, gls_length, h.1]) fun i hi => ?_
  rw [gns_length] at hi
  rw [gns_at hi, gls_at (by rw [← h.1]; exact hi)]
  exact (h.2 i (by rw [← h.1]; exact hi)).1

/-- Too loud. -/
def tooLoud (b : List Int) : Bool := decide (8000 < loud b)
/-- The fault of samples, sizes and bits. -/
def encF (l s : List Int) (B : Int) : Int :=
  if bf s = 0 then (if l.length = total s ∧ total s % 2 = 0 then (if l.any (out 1000) = false ∧ 0 ≤ B ∧ B ≤ 400 then (if (cuts (Lap.lap l) s).any tooLoud = true then 4 else 0) else 1) else 3) else bf s
theorem encF_zero {l s : List Int} {B : Int} : encF l s B = 0 ↔ bf s = 0 ∧ l.length = total s ∧ total s % 2 = 0 ∧ In 1000 l ∧ 0 ≤ B ∧ B ≤ 400 ∧ ∀ i, i < s.length → loud (rowAt (cuts (Lap.lap l) s) i) ≤ 8000 := by
  unfold encF
  constructor
  · intro h
    split at h
    · rename_i h1
      split at h
      · rename_i h2
        split at h
        · rename_i h3
          split at h
          · omega
          · rename_i h4
            refine ⟨h1, h2.1, h2.2, in_of_any h3.1, h3.2.1, h3.2.2, fun i hi => ?_⟩
            rw [Bool.not_eq_true, List.any_eq_false] at h4
            have hl : i < (cuts (Lap.lap l) s).length := by rw [cuts_length]; exact hi
            have := h4 _ (List.getElem_mem hl)
            rw [← rowAt_get hl] at this
            simpa [tooLoud] using this
        · omega
      · omega
    · exact absurd h (by assumption)
  · intro ⟨h1, h2, h3, h4, h5, h6, h7⟩
    rw [if_pos h1, if_pos ⟨h2, h3⟩, if_pos ⟨any_of_in h4, h5, h6⟩, if_neg]
    rw [Bool.not_eq_true, List.any_eq_false]
    intro b hb
    obtain ⟨i, hi, rfl⟩ := List.getElem_of_mem hb
    have := h7 i (by rwa [cuts_length] at hi)
    rw [rowAt_get hi] at this
    simp [tooLoud]
    omega
theorem total_even {s l : List Int} (h1 : l.length = total s) (h2 : total s % 2 = 0) : l.length = 2 * (l.length / 2) := by omega

/-- A gain that there is. -/
def gok (g : Int) : Bool := decide (0 ≤ g) && decide (g ≤ 53) && vo g.toNat
/-- One by one: a gain, pulses. -/
def oneF : List Prt → Int
  | [] => 0
  | p :: ps => if gok p.1 = true then (if fault p.2 = 0 then oneF ps else fault p.2) else 1
/-- One by one: pulses, a gain. -/
def twoF : List Prt → Int
  | [] => 0
  | p :: ps => if fault p.2 = 0 then (if gok p.1 = true then twoF ps else 1) else fault p.2
/-- Each has as many numbers as its size. -/
def Fits (ps : List Prt) (s : List Int) : Prop := ∀ i, i < ps.length → ((prt ps i).2.length : Int) = at0 s i
/-- Each has as many pulses as are given to it. -/
def Gets (ps : List Prt) (k : List Int) : Prop := ∀ i, i < ps.length → (loud (prt ps i).2 : Int) = at0 k i
/-- The fault of a frame, as a word of what it is. -/
def FrmF (ps : List Prt) (s : List Int) (B e : Int) : Prop :=
  (bf s ≠ 0 ∧ e = bf s) ∨ (bf s = 0 ∧ ((ps.length ≠ s.length ∧ e = 3) ∨ (ps.length = s.length ∧ ((¬ Fits ps s ∧ e = 3) ∨ (Fits ps s ∧ ((oneF ps ≠ 0 ∧ e = oneF ps) ∨ (oneF ps = 0 ∧ ((¬ (0 ≤ B ∧ B ≤ 400) ∧ e = 1) ∨ ((0 ≤ B ∧ B ≤ 400) ∧ ((¬ Gets ps (given (gns ps) s B) ∧ e = 3) ∨ (Gets ps (given (gns ps) s B) ∧ e = 0)))))))))))
theorem FrmF.one {ps : List Prt} {s : List Int} {B e e' : Int} (h : FrmF ps s B e) (h' : FrmF ps s B e') : e = e' := by
  unfold FrmF at h h'
  by_cases h1 : bf s = 0 <;> by_cases h2 : ps.length = s.length <;> by_cases h3 : Fits ps s <;> by_cases h4 : oneF ps = 0 <;> by_cases h5 : 0 ≤ B ∧ B ≤ 400 <;> by_cases h6 : Gets ps (given (gns ps) s B) <;> simp_all

/-- What a part tells. -/
def tl (v k x : Int) : Int := x.sign * ((x.natAbs : Int) * v / k)
def told (p : Prt) : List Int := p.2.map (tl (vl p.1.toNat) (loud p.2))
theorem told_length (p : Prt) : (told p).length = p.2.length := by simp [told]
def all (ps : List Prt) : List Int := (ps.map told).flatten
def long (ps : List Prt) : Nat := ((ps.map fun p => p.2.length)).sum
theorem all_length (ps : List Prt) : (all ps).length = long ps := by
  unfold all long
  rw [List.length_flatten, List.map_map]
  congr 1
  exact List.map_congr_left fun p _ => told_length p
/-- The fault of a frame that is to be told. -/
def decF (ps : List Prt) : Int :=
  if ps.length = 0 then 5 else if 8 < ps.length ∨ 32 < long ps then 4 else if twoF ps = 0 then (if long ps % 2 = 0 then (if (all ps).any (out 4000) = true then 1 else 0) else 3) else twoF ps

end Go.Proofs.YtjnmogmagngenaiDoor.Frm

/-
  More numbers of chapter 16: what is made is right. No program here.
-/
import Derived.Test.YtjnmogmagngenaiDoorFrameMath
namespace Go.Proofs.YtjnmogmagngenaiDoor.Frm
open Go.Proofs.YtjnmogmagngenaiDoor.Tre Go.Proofs.YtjnmogmagngenaiDoor.Bnd Go.Proofs.YtjnmogmagngenaiDoor.Pls Go.Proofs.YtjnmogmagngenaiDoor.Gai Go.Proofs.YtjnmogmagngenaiDoor.Shr
set_option linter.unusedVariables false

theorem oneF_none' {ps : List Prt} (h : ∀ i, i < ps.length → gok (prt ps i).1 = true ∧ fault (prt ps i).2 = 0) : oneF ps = 0 := by
  induction ps with
  | nil => rfl
  | cons p ps ih =>
    have h0 : gok p.1 = true ∧ fault p.2 = 0 := h 0 (by simp)
    rw [oneF, if_pos h0.1, if_pos h0.2]
    exact ih fun i hi => h (i + 1) (by simpa using hi)
theorem twoF_none' {ps : List Prt} (h : ∀ i, i < ps.length → gok (prt ps i).1 = true ∧ fault (prt ps i).2 = 0) : twoF ps = 0 := by
  induction ps with
  | nil => rfl
  | cons p ps ih =>
    have h0 : gok p.1 = true ∧ fault p.2 = 0 := h 0 (by simp)
    rw [twoF, if_pos h0.2, if_pos h0.1]
    exact ih fun i hi => h (i + 1) (by simpa using hi)
theorem gok_gi {n : Nat} (h : n ≤ 8000) : gok (gi n : Int) = true := by
  have h := gi_near h
  unfold gok
  rw [Int.toNat_natCast, h.2.1]
  simp
  omega
/-- As many numbers as the first sizes say. -/
theorem long_pre {ps : List Prt} {s : List Int} (hl : ps.length = s.length) (h : ∀ i, i < ps.length → ((prt ps i).2.length : Int) = at0 s i) : ∀ k, k ≤ ps.length → long (ps.take k) = pre s k := by
  intro k
  induction k with
  | zero => intro _; rfl
  | succ k ih =>
    intro hk
    have e : ps.take (k + 1) = ps.take k ++ [prt ps k] := by rw [List.take_succ_eq_append_getElem (by omega), prt_get (by omega)]
    have h1 : long (ps.take (k + 1)) = long (ps.take k) + (prt ps k).2.length := by
      unfold long
      rw [e, List.map_append, List.sum_append]
      simp
    rw [h1, ih (by omega), pre_succ]
    have := h k (by omega)
    omega

/-- What is made is right. -/
structure Right (s : List Int) (B : Int) (ps : List Prt) : Prop where
  len : ps.length = s.length
  fit : ∀ i, i < ps.length → ((prt ps i).2.length : Int) = at0 s i
  ok : ∀ i, i < ps.length → gok (prt ps i).1 = true ∧ fault (prt ps i).2 = 0
  gets : ∀ i, i < ps.length → (loud (prt ps i).2 : Int) = at0 (given (gns ps) s B) i
theorem made_right {l s : List Int} {B : Int} {ps : List Prt} (h : encF l s B = 0) (hm : Made (cuts (Lap.lap l) s) s B ps) : Right s B ps := by
  obtain ⟨h1, h2, h3, h4, h5, h6, h7⟩ := encF_zero.1 h
  obtain ⟨n0, n8, hsz, n32⟩ := bf_ok h1
  have hll : (Lap.lap l).length = l.length := Lap.lap_length (by omega)
  have hsh := shaped_cuts (l := Lap.lap l) hsz (by rw [hll]; exact h2.symm)
  have hlen : ps.length = s.length := by rw [hm.1, cuts_length]
  have hgv : gns ps = gls (cuts (Lap.lap l) s) := hm.gns
  have hinv : Inv s (vals (gns ps)) B (given (gns ps) s B) := (share_is (d := vals (gns ps)) hsz n8 h5).1
  have key : ∀ i, i < ps.length → (at0 (given (gns ps) s B) i).toNat = 0 ∨ 0 < loud (rowAt (cuts (Lap.lap l) s) i) := fun i hi => by
    by_cases hz : loud (rowAt (cuts (Lap.lap l) s) i) = 0
    · left
      have e : at0 (vals (gns ps)) i = 0 := by
        rw [vals_at _ (by rw [gns_length]; exact hi), hgv, gls_at (by rw [cuts_length, ← hlen]; exact hi), hz]
        rfl
      rw [hinv.low i (by rw [hinv.len, ← hlen]; exact hi) e]
      rfl
    · right; omega
  have hpl : ∀ i, i < ps.length → 0 ≤ at0 (given (gns ps) s B) i ∧ at0 (given (gns ps) s B) i ≤ 8 := fun i hi => hinv.pls i (by rw [hinv.len, ← hlen]; exact hi)
  have hnr : ∀ i, i < ps.length → Nea.Near (rowAt (cuts (Lap.lap l) s) i) (at0 (given (gns ps) s B) i).toNat (prt ps i).2 := fun i hi => by
    rw [hgv]
    exact (hm.2 i (by rw [cuts_length, ← hlen]; exact hi)).2
  have hld : ∀ i, i < ps.length → loud (prt ps i).2 = (at0 (given (gns ps) s B) i).toNat := fun i hi => (hnr i hi).loud (key i hi)
  have hfit : ∀ i, i < ps.length → ((prt ps i).2.length : Int) = at0 s i := fun i hi => by
    rw [(hnr i hi).len]
    exact hsh.2 i (by rw [← hlen]; exact hi)
  refine ⟨hlen, hfit, fun i hi => ⟨?_, ?_⟩, fun i hi => ?_⟩
  · rw [(hm.2 i (by rw [cuts_length, ← hlen]; exact hi)).1]
    exact gok_gi (h7 i (by rw [← hlen]; exact hi))
  · have e1 := hld i hi
    have e2 := hpl i hi
    have e3 := hfit i hi
    have e4 := hsz i (by rw [← hlen]; exact hi)
    exact fault_none (by omega) (loud_all (by omega)) (by omega)
  · have e1 := hld i hi
    have e2 := hpl i hi
    omega
theorem Right.frm {s : List Int} {B : Int} {ps : List Prt} (h : Right s B ps) (h1 : bf s = 0) (h5 : 0 ≤ B ∧ B ≤ 400) : FrmF ps s B 0 :=
  Or.inr ⟨h1, Or.inr ⟨h.len, Or.inr ⟨h.fit, Or.inr ⟨oneF_none' h.ok, Or.inr ⟨h5, Or.inr ⟨h.gets, rfl⟩⟩⟩⟩⟩⟩
theorem Right.long {s : List Int} {B : Int} {ps : List Prt} (h : Right s B ps) : long ps = total s := by
  have := long_pre h.len h.fit ps.length (Nat.le_refl _)
  rw [List.take_length] at this
  rw [this, h.len]
  rfl
/-- Told, it is refused only because a number is too great. -/
theorem Right.dec {s : List Int} {B : Int} {ps : List Prt} (h : Right s B ps) (h1 : bf s = 0) (h2 : total s % 2 = 0) : decF ps = if (all ps).any (out 4000) = true then 1 else 0 := by
  obtain ⟨n0, n8, hsz, n32⟩ := bf_ok h1
  unfold decF
  rw [if_neg (by rw [h.len]; omega), if_neg (by rw [h.len, h.long]; omega), if_pos (twoF_none' h.ok), if_pos (by rw [h.long]; exact h2)]

/-- Numbers that are all 0. -/
theorem loud_zero {l : List Int} (h : loud l = 0) : l = List.replicate l.length 0 := by
  induction l with
  | nil => rfl
  | cons x l ih =>
    simp only [loud] at h
    have hx : x = 0 := by omega
    have hl := ih (by omega)
    rw [hx, List.length_cons, List.replicate_succ, ← hl]
theorem loud_rep (n : Nat) : loud (List.replicate n 0) = 0 := by
  induction n with
  | zero => rfl
  | succ n ih => rw [List.replicate_succ]; simp only [loud]; rw [ih]; rfl
theorem lap_zeros {n : Nat} (h : n % 2 = 0) : Lap.lap (List.replicate n 0) = List.replicate n 0 := by
  obtain ⟨m, rfl⟩ : ∃ m, n = 2 * m := ⟨n / 2, by omega⟩
  rw [Lap.lap_flat, List.replicate_append_replicate]
  congr 1
  omega
theorem unlap_zeros {n : Nat} (h : n % 2 = 0) : Lap.unlap (List.replicate n 0) = List.replicate n 0 := by
  have h1 := Lap.unlap_lap (l := List.replicate n (0 : Int)) (by rw [List.length_replicate]; omega)
  rwa [lap_zeros h] at h1
theorem told_zero {p : Prt} (h : loud p.2 = 0) : told p = List.replicate p.2.length 0 := by
  unfold told
  rw [h]
  refine List.eq_replicate_iff.2 ⟨by simp, fun x hx => ?_⟩
  obtain ⟨y, _, rfl⟩ := List.mem_map.1 hx
  simp [tl]
theorem all_zero {ps : List Prt} (h : ∀ i, i < ps.length → loud (prt ps i).2 = 0) : all ps = List.replicate (long ps) 0 := by
  induction ps with
  | nil => rfl
  | cons p ps ih =>
    have h0 : loud p.2 = 0 := h 0 (by simp)
    have h1 := ih fun i hi => h (i + 1) (by simpa using hi)
    have e1 : all (p :: ps) = told p ++ all ps := rfl
    have e2 : long (p :: ps) = p.2.length + long ps := by simp [long]
    rw [e1, e2, told_zero h0, h1, List.replicate_append_replicate]
/-- Silence: no gain, no pulse, told as silence. -/
theorem silent_zero {s : List Int} {B : Int} (h1 : bf s = 0) (h2 : total s % 2 = 0) (h5 : 0 ≤ B) (h6 : B ≤ 400) : encF (List.replicate (total s) 0) s B = 0 := by
  refine encF_zero.2 ⟨h1, by rw [List.length_replicate], h2, fun n hn => ?_, h5, h6, fun i hi => ?_⟩
  · obtain rfl := (List.mem_replicate.1 hn).2
    omega
  · rw [lap_zeros h2, cuts_at _ _ hi]
    unfold cutAt
    rw [List.drop_replicate, List.take_replicate, loud_rep]
    omega
theorem silent_made {s : List Int} {B : Int} {ps : List Prt} (h1 : bf s = 0) (h2 : total s % 2 = 0) (h5 : 0 ≤ B) (h6 : B ≤ 400) (hm : Made (cuts (Lap.lap (List.replicate (total s) 0)) s) s B ps) :
    Right s B ps ∧ (∀ i, i < ps.length → (prt ps i).1 = 0 ∧ loud (prt ps i).2 = 0) ∧ decF ps = 0 ∧ Lap.unlap (all ps) = List.replicate (total s) 0 := by
  obtain ⟨n0, n8, hsz, n32⟩ := bf_ok h1
  have hr := made_right (silent_zero h1 h2 h5 h6) hm
  have hlen := hr.len
  have hz : ∀ i, i < s.length → loud (rowAt (cuts (Lap.lap (List.replicate (total s) 0)) s) i) = 0 := fun i hi => by
    rw [lap_zeros h2, cuts_at _ _ hi]
    unfold cutAt
    rw [List.drop_replicate, List.take_replicate, loud_rep]
  have hg : ∀ i, i < ps.length → (prt ps i).1 = 0 := fun i hi => by
    rw [(hm.2 i (by rw [cuts_length, ← hlen]; exact hi)).1, hz i (by rw [← hlen]; exact hi)]
    rfl
  have hinv : Inv s (vals (gns ps)) B (given (gns ps) s B) := (share_is (d := vals (gns ps)) hsz n8 h5).1
  have hl : ∀ i, i < ps.length → loud (prt ps i).2 = 0 := fun i hi => by
    have e := hr.gets i hi
    have e2 : at0 (vals (gns ps)) i = 0 := by
      rw [vals_at _ (by rw [gns_length]; exact hi), gns_at hi, hg i hi]
      rfl
    rw [hinv.low i (by rw [hinv.len, ← hlen]; exact hi) e2] at e
    omega
  have ha := all_zero hl
  rw [hr.long] at ha
  refine ⟨hr, fun i hi => ⟨hg i hi, hl i hi⟩, ?_, by rw [ha]; exact unlap_zeros h2⟩
  rw [hr.dec h1 h2, if_neg]
  rw [Bool.not_eq_true, ha]
  refine any_of_in fun n hn => ?_
  obtain rfl := (List.mem_replicate.1 hn).2
  omega

end Go.Proofs.YtjnmogmagngenaiDoor.Frm
